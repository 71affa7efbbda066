/-
  PROVED HERE: plain facts on lists, with no word of the program; plain facts, with no word of the program; plain facts, with no word of the program; plain facts, with no word of the program.
  Conditions: none but those that each theorem's own premises say.
-/
import Derived.Test.YthlhgiihngcobaaGreatDoorMgaf
import Derived.Test.YthlhgiihngcobaaGreatDoorMgah
import Derived.Test.YthlhgiihngcobaaGreatDoorMgai
set_option maxHeartbeats 32000000
set_option maxRecDepth 100000
namespace Go.Proofs.YthlhgiihngcobaaGreatDoor
def zhR:List Op3->Int->Nat->Option Nat
 | [],_,_=>none
 | o::r,t,n=>if o.1=t then(if n=0 then some 0 else(zhR r t (n-1)).map (· + 1))else(zhR r t n).map (· + 1)
def nthAt(l:List Op3)(i:Nat):Nat:=(ofL (l.take i) (opAt l i).1).length
def zaA(l:List Op3)(i:Nat):Op3 × Nat:=(opAt l i,nthAt l i)
theorem zu0(o:Op3)(r:List Op3)(i:Nat):opAt (o::r) (i+1)=opAt r i:=by simp[opAt]
theorem zdC(o:Op3)(r:List Op3)(t:Int):ofL (o::r) t=if o.1=t then o::ofL r t else ofL r t:=by unfold ofL;rw[List.filter_cons];by_cases h:o.1=t <;> simp[h]
theorem zjd:∀(l:List Op3) (k:Nat),k<l.length->zhR l (opAt l k).1 (nthAt l k)=some k:=by
 intro l
 induction l with
 | nil=>intro k h;simp at h
 | cons o r ih =>
   intro k h;cases k with
   | zero=>simp[zhR,opAt,nthAt,ofL]
   | succ k =>
     have hk:k<r.length:=by simpa using h
     have h1:=ih k hk;unfold nthAt at h1 ⊢;rw[zu0,List.take_succ_cons,zdC];simp only[zhR];by_cases ho:o.1=(opAt r k).1
     ·rw[if_pos ho,if_pos ho,List.length_cons,if_neg (by omega),Nat.add_sub_cancel,h1];rfl
     ·rw[if_neg ho,if_neg ho,h1];rfl
theorem zkj{l:List Op3}{i k:Nat}(hi:i<l.length)(hk:k<l.length)(h:zaA l i=zaA l k):i=k:=by have h1:=zjd l i hi;have h2:=zjd l k hk;unfold zaA at h;simp only[Prod.mk.injEq]at h;rw[h.1,h.2,h2]at h1;exact(Option.some.inj h1).symm
theorem zeA(l m:List Op3)(t:Int):ofL (l++m) t=ofL l t++ofL m t:=by simp[ofL]
def zvm(h g:List Op3):Prop:=∀t:Int,1<=t->t<=6->ofL h t=ofL g t
theorem zsz(l:List Op3)(hl:∀o∈l,1<=o.1/\o.1<=6):l.length=(ofL l 1).length+(ofL l 2).length+(ofL l 3).length+(ofL l 4).length+(ofL l 5).length+(ofL l 6).length:=by
 induction l with
 | nil=>rfl
 | cons o r ih =>have ho:=hl o (List.mem_cons_self ..);have ih':=ih fun p hp=>hl p (List.mem_cons_of_mem _ hp);simp only[zdC,List.length_cons];rcases(show o.1=1\/o.1=2\/o.1=3\/o.1=4\/o.1=5\/o.1=6 by omega)with e | e | e | e | e | e <;> rw[e] <;> simp <;> omega
theorem zmL{h g:List Op3}(hh:∀o∈h,1<=o.1/\o.1<=6)(hg:∀o∈g,1<=o.1/\o.1<=6)(hd:zvm h g):h.length=g.length:=by rw[zsz h hh,zsz g hg,hd 1 (by omega) (by omega),hd 2 (by omega) (by omega),hd 3 (by omega) (by omega),hd 4 (by omega) (by omega),hd 5 (by omega) (by omega),hd 6 (by omega) (by omega)]
end Go.Proofs.YthlhgiihngcobaaGreatDoor
namespace Go.Proofs.YthlhgiihngcobaaGreatDoor
def zmW(l:List Op3)(x:Int):Nat->Option Nat
 | 0=>none
 | k+1=>if(opAt l k).2.1=2/\(opAt l k).2.2=x then some k else zmW l x k
theorem zkL{l:List Op3}{x:Int}{k:Nat}(h1:(opAt l k).2.1=2)(h2:(opAt l k).2.2=x):zmW l x (k+1)=some k:=by simp[zmW,h1,h2]
theorem zhW{l:List Op3}{x:Int}{k:Nat}(h:¬((opAt l k).2.1=2/\(opAt l k).2.2=x)):zmW l x (k+1)=zmW l x k:=by rw[zmW,if_neg h]
theorem zv7{l:List Op3}{x:Int}:∀ {k j:Nat},zmW l x k=some j->j<k/\(opAt l j).2.1=2/\(opAt l j).2.2=x/\∀i,j<i->i<k->¬((opAt l i).2.1=2/\(opAt l i).2.2=x):=by
 intro k
 induction k with
 | zero=>intro j h;cases h
 | succ k ih =>
   intro j h;by_cases hk:(opAt l k).2.1=2/\(opAt l k).2.2=x
   ·rw[zkL hk.1 hk.2]at h;obtain rfl:=Option.some.inj h;exact⟨by omega,hk.1,hk.2,fun i h1 h2=>by omega⟩
   ·rw[zhW hk]at h;obtain⟨h1,h2,h3,h4⟩:=ih h;refine⟨by omega,h2,h3,fun i i1 i2=>?_⟩;rcases Nat.lt_or_ge i k with e | e
    ·exact h4 i i1 e
    ·rw[show i=k by omega];exact hk
def zN:Op3 × Nat:=((0,0,0),0)
def zfj(l:List Op3)(k:Nat)(x:Int):Op3 × Nat:=match zmW l x k with | none=>zN | some j=>zaA l j
theorem zqh{l:List Op3}{k:Nat}{x:Int}(h:zmW l x k=none):zfj l k x=zN:=by rw[zfj,h]
theorem zjO{l:List Op3}{k j:Nat}{x:Int}(h:zmW l x k=some j):zfj l k x=zaA l j:=by rw[zfj,h]
theorem zuG{l:List Op3}{x:Int}{k:Nat}(h1:(opAt l k).2.1=2)(h2:(opAt l k).2.2=x):zfj l (k+1) x=zaA l k:=zjO (zkL h1 h2)
theorem zjw{l:List Op3}{x:Int}{k:Nat}(h:¬((opAt l k).2.1=2/\(opAt l k).2.2=x)):zfj l (k+1) x=zfj l k x:=by unfold zfj;rw[zhW h]
def ze2(l:List Op3)(i:Nat):Op3 × Nat:=if(opAt l i).2.1=1 then zfj l i (opAt l i).2.2 else zN
def zgk(h g:List Op3)(k:Nat):Bool:=(List.range h.length).any fun i=>zaA h i == zaA g k && ze2 h i == ze2 g k
def zj1(h g:List Op3):Bool:=(List.range 7).all fun x=>zfj h h.length ((x:Nat):Int) == zfj g g.length ((x:Nat):Int)
def zcT(h g:List Op3):Bool:=(g.length == h.length) && (List.range g.length).all (zgk h g) && zj1 h g
theorem zlP{h g:List Op3}{k:Nat}:zgk h g k=true↔∃i,i<h.length/\zaA h i=zaA g k/\ze2 h i=ze2 g k:=by simp[zgk]
theorem zv2{h g:List Op3}:zj1 h g=true↔∀x:Nat,x<7->zfj h h.length x=zfj g g.length x:=by simp[zj1]
theorem zgu{h g:List Op3}:zcT h g=true↔g.length=h.length/\(∀k,k<g.length->zgk h g k=true)/\zj1 h g=true:=by simp[zcT,and_assoc]
theorem zvb{o:Op3}(h:isOpB o=true):1<=o.1/\o.1<=6:=by simp[isOpB]at h;omega
theorem zcK{o:Op3}(h:isOpB o=true)(h2:o.2.1=1\/o.2.1=2):1<=o.2.2/\o.2.2<=6:=by rcases h2 with e | e <;> simp[isOpB,zaO,e]at h <;> omega
def tryO(ds:List Int)(p:List Int->Bool):Nat->List Int->Option (List Int)
 | 0,b=>if p b=true then some b else none
 | f+1,b=>ds.findSome? fun t=>if b.contains t=true then none else tryO ds p f (b++[t])
theorem zoc{α β:Type}{q:α->Option β}:∀ {l:List α} {k:Nat} {a:α} {r:β},l[k]? = some a->q a=some r->(∀j y,j<k->l[j]? = some y->q y=none)->l.findSome? q=some r:=by
 intro l
 induction l with
 | nil=>intro k a r h;simp at h
 | cons x l ih =>
   intro k a r h hr hn;cases k with
   | zero =>simp at h;subst h;simp[hr]
   | succ k =>have h0:=hn 0 x (by omega) (by simp);simp[h0];exact ih (k:=k) (by simpa using h) hr fun j y hj hy=>hn (j+1) y (by omega) (by simpa using hy)
theorem zxH{ds:List Int}{p:List Int->Bool}{f k:Nat}{b r:List Int}(hk:k<ds.length)(hb:ds.getD k 0 ∉ b)(hs:tryO ds p f (b++[ds.getD k 0])=some r)(hn:∀j,j<k->ds.getD j 0 ∉ b->tryO ds p f (b++[ds.getD j 0])=none):tryO ds p (f+1) b=some r:=by
 rw[tryO];refine zoc (k:=k) (a:=ds.getD k 0) (by simp[List.getD,List.getElem?_eq_getElem hk]) (by rw[if_neg (by simpa using hb)];exact hs) fun j y hj hy=>?_;have e:ds.getD j 0=y:=by simp[List.getD,hy]
 split
 ·rfl
 ·rename_i h;rw[<-e];exact hn j hj (by rw[e];simpa using h)
theorem zuE{ds:List Int}{p:List Int->Bool}{f:Nat}{b:List Int}(hn:∀j,j<ds.length->ds.getD j 0 ∉ b->tryO ds p f (b++[ds.getD j 0])=none):tryO ds p (f+1) b=none:=by
 rw[tryO,List.findSome?_eq_none_iff];intro y hy;obtain⟨j,hj,e⟩:=List.mem_iff_getElem.1 hy;have e':ds.getD j 0=y:=by simp[List.getD,List.getElem?_eq_getElem hj,e]
 split
 ·rfl
 ·rename_i h;rw[<-e'];exact hn j hj (by rw[e'];simpa using h)
structure zg9(ds b:List Int):Prop where
 once:b.Nodup
 all:∀x∈b,x∈ds
theorem zg9.nil(ds:List Int):zg9 ds []:=⟨List.nodup_nil,fun x hx=>by cases hx⟩
theorem zg9.snoc{ds b:List Int}(h:zg9 ds b){t:Int}(ht:t∈ds)(hb:t ∉ b):zg9 ds (b++[t]) where
 once:=by rw[List.nodup_append];refine⟨h.once,by simp,?_⟩;intro x hx y hy;rw[List.mem_singleton.1 hy];intro e;exact hb (e ▸hx)
 all:=fun x hx=>by
  rcases List.mem_append.1 hx with e | e
  ·exact h.all x e
  ·rw[List.mem_singleton.1 e];exact ht
theorem zx5{ds:List Int}{k:Nat}(hk:k<ds.length):ds.getD k 0∈ds:=by simp[List.getD,List.getElem?_eq_getElem hk]
end Go.Proofs.YthlhgiihngcobaaGreatDoor
namespace Go.Proofs.YthlhgiihngcobaaGreatDoor
def zcF(d:List Op3):Option (List Int):=(zcN (zaG d 36)).map fun b=>weaveL b ((zas d).filter fun x=>!inB b x)
theorem zik{d:List Op3}(hd:∀o∈d,1<=o.1/\o.1<=6){e:zab}(he:e∈zaG d 36):e.1∈zas d/\e.2∈zas d:=by
 have h1:=(List.mem_filter.1 he).2;unfold ziC at h1;obtain⟨p,hp,h2⟩:=List.any_eq_true.1 h1;have h3:zfF d p=e:=by simpa using h2
 obtain⟨i,j,hij,hj,_,rfl⟩:=zbx.1 hp;rw[<-h3];unfold zfF;simp only[Int.toNat_natCast];have m1:=zam (l:=d) (i:=i) (by omega);have m2:=zam (l:=d) (i:=j) hj;exact⟨zbh.2 ⟨(hd _ m1).1,(hd _ m1).2,zpl.2 ⟨_,m1,rfl⟩⟩,zbh.2 ⟨(hd _ m2).1,(hd _ m2).2,zpl.2 ⟨_,m2,rfl⟩⟩⟩
theorem zom{d:List Op3}(hd:∀o∈d,1<=o.1/\o.1<=6):zwu (zas d) (zaG d 36)=zcF d:=by
 unfold zcF;refine zm7 (ze7 _ _) (zdB _) (fun x hx=>⟨(zbh.1 hx).1,(zbh.1 hx).2.1⟩) fun x hx=>?_;obtain⟨e,he,h2⟩:=(zjr _ x).1 hx;rcases h2 with rfl | rfl
 ·exact(zik hd he).1
 ·exact(zik hd he).2
end Go.Proofs.YthlhgiihngcobaaGreatDoor
namespace Go.Proofs.YthlhgiihngcobaaGreatDoor
theorem zqe(d:List Op3)(t:Int)(o:List Int):alongL d (t::o)=ofL d t++alongL d o:=by simp[alongL]
theorem zmU{d:List Op3}{o:List Int}{x:Op3}:x∈alongL d o↔x∈d/\x.1∈o:=by
 unfold alongL ofL;simp only[List.mem_flatMap,List.mem_filter,beq_iff_eq];constructor
 ·rintro⟨t,ht,hx,rfl⟩;exact⟨hx,ht⟩
 ·rintro⟨hx,ht⟩;exact⟨_,ht,hx,rfl⟩
theorem zzq(d:List Op3)(u t:Int):ofL (ofL d u) t=if u=t then ofL d t else[]:=by
 unfold ofL;rw[List.filter_filter];split
 ·rename_i h;subst h;simp
 ·rename_i h;rw[List.filter_eq_nil_iff];intro a _ h2;simp at h2;exact h (h2.2.symm.trans h2.1)
theorem zpw{d:List Op3}{t:Int}:∀ {o:List Int},o.Nodup->ofL (alongL d o) t=if t∈o then ofL d t else[]:=by
 intro o
 induction o with
 | nil=>intro _;rfl
 | cons u o ih =>
   intro hn;obtain⟨h1,h2⟩:=List.nodup_cons.1 hn;rw[zqe,zeA,zzq,ih h2];by_cases e:u=t
   ·subst e;rw[if_pos rfl,if_neg h1,if_pos (List.mem_cons_self ..),List.append_nil]
   ·rw[if_neg e,List.nil_append];by_cases h3:t∈o
    ·rw[if_pos h3,if_pos (List.mem_cons_of_mem _ h3)]
    ·rw[if_neg h3,if_neg fun h=>?_];rcases List.mem_cons.1 h with h | h
     ·exact e h.symm
     ·exact h3 h
theorem zjH{d:List Op3}{o:List Int}(hs:sortI o=zas d):o.Nodup:=(zdV hs).nodup_iff.2 (zgi (zdB _))
theorem zuB{d:List Op3}{o:List Int}(hs:sortI o=zas d){t:Int}:t∈o↔t∈zas d:=(zdV hs).mem_iff
theorem zoq{d:List Op3}{o:List Int}(hs:sortI o=zas d):zvm (alongL d o) d:=fun t h1 h6=>by
 rw[zpw (zjH hs)];split
 ·rfl
 ·rename_i h
  have h2:zg0 d t=false:=by
   cases h3:zg0 d t with
   | false=>rfl
   | true=>exact absurd ((zuB hs).2 (zbh.2 ⟨h1,h6,h3⟩)) h
  exact(List.length_eq_zero_iff.1 (zzL h2)).symm
theorem zAz:∀ {l:List Op3},(∀t,zgM (ofL l t))->zgM l:=by
 intro l
 induction l with
 | nil=>intro _;exact List.Pairwise.nil
 | cons a r ih =>
   intro h;refine List.pairwise_cons.2 ⟨fun b hb=>?_,ih fun t=>?_⟩
   ·have h1:=h a.1;rw[zdC,if_pos rfl]at h1;rintro⟨e,h2⟩;exact(List.pairwise_cons.1 h1).1 b (List.mem_filter.2 ⟨hb,by simp[e]⟩) ⟨e,h2⟩
   ·have h1:=h t;rw[zdC]at h1;split at h1
    ·exact(List.pairwise_cons.1 h1).2
    ·exact h1
theorem zue{d:List Op3}{o:List Int}(hc:(chk d).2=0)(hs:sortI o=zas d):(chk (alongL d o)).2=0:=by
 obtain⟨h1,h2,h3⟩:=(zbr d).1 hc;have hr:∀x∈d,1<=x.1/\x.1<=6:=fun x hx=>zbu (h2 x hx);have hr2:∀x∈alongL d o,1<=x.1/\x.1<=6:=fun x hx=>hr x (zmU.1 hx).1;refine(zbr _).2 ⟨?_,fun x hx=>h2 x (zmU.1 hx).1,zAz fun t=>?_⟩
 ·rw[zmL hr2 hr (zoq hs)];exact h1
 ·rw[zpw (zjH hs)];split
  ·exact h3.sublist List.filter_sublist
  ·exact List.Pairwise.nil
end Go.Proofs.YthlhgiihngcobaaGreatDoor
