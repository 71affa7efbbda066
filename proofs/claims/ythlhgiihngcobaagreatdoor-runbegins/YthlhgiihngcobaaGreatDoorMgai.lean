/-
  PROVED HERE: plain facts, with no word of the program; plain facts, with no word of the program; plain facts on lists, with no word of the program; plain facts, with no word of the program.
  Conditions: none but those that each theorem's own premises say.
-/
import Derived.Test.YthlhgiihngcobaaGreatDoorMgah
import Derived.Test.YthlhgiihngcobaaGreatDoorMgaf
namespace Go.Proofs.YthlhgiihngcobaaGreatDoor
def weaveL:List Int→List Int→List Int
 | [],fr=>fr
 | b::bs,fr=>fr.takeWhile(fun x=>decide(x<b))++b::weaveL bs(fr.dropWhile fun x=>decide(x<b))
theorem weave_nil(b:List Int):weaveL b []=b:=by
 induction b with
 | nil=>rfl
 | cons a r ih=>simp[weaveL,ih]
theorem zjM {b f:Int} {bs fr:List Int}(h:f<b):weaveL(b::bs)(f::fr)=f::weaveL(b::bs)fr:=by simp[weaveL,h]
theorem zgR {b f:Int} {bs fr:List Int}(h:¬f<b):weaveL(b::bs)(f::fr)=b::weaveL bs(f::fr):=by simp[weaveL,h]
theorem zna(b:List Int):∀fr,(weaveL b fr).length=b.length+fr.length:=by
 induction b with
 | nil=>intro fr;simp[weaveL]
 | cons a r ih =>
   intro fr
   have h1:=List.takeWhile_append_dropWhile(p:=fun x=>decide(x<a))(l:=fr)
   have h2:=congrArg List.length h1
   rw[List.length_append]at h2
   simp only[weaveL,List.length_append,List.length_cons,ih]
   omega
def zj6(l:List zab):Nat→zbp→Option(List Int)
 | 0,_=>some []
 | n+1,s=>if zeC s=true then(if nextN l s=0 then none else(zj6 l n(zdG s(nextN l s)false)).map((nextN l s:Int) :: ·))else some []
theorem zia(l:List zab):∀(n:Nat)(s:zbp)(out:List Int),orderGo l n s out=(zj6 l n s).map(out ++ ·):=by
 intro n
 induction n with
 | zero=>intro s out;simp[orderGo,zj6]
 | succ n ih =>
   intro s out
   simp only[orderGo,zj6]
   split
   ·split
    ·rfl
    ·rw[ih,Option.map_map]
     congr 1
     funext x
     simp
   ·simp
theorem zbK {l:List zab} {s:zbp}(h:zeC s=false):∀n,zj6 l n s=some []:=by
 intro n
 cases n with
 | zero=>rfl
 | succ n=>simp[zj6,h]
theorem zxG {s:zbp} {t:Nat}(ht:t<7)(h:s t=true):zeC s=true:=List.any_eq_true.2⟨t,List.mem_range.2 ht,h⟩
theorem zf5 {s:zbp}(h:zeC s=false) {t:Nat}(ht:t<7):s t=false:=by
 have:=List.any_eq_false.1 h t(List.mem_range.2 ht)
 simpa using this
theorem zdV {s:zbp}(h:zc3 s=0):zeC s=false:=by
 cases h2:zeC s with
 | false=>rfl
 | true=>have:=zgF h2;omega
theorem zes {l:List zab} {n:Nat} {s:zbp}(hn:zc3 s≤n)(h:zeC s=true)(h0:nextN l s≠0):zj6 l n s=(zj6 l(n-1)(zdG s(nextN l s)false)).map((nextN l s:Int) :: ·):=by
 have:=zgF h
 match n,hn with
 | 0,hn=>omega
 | n+1,_=>simp[zj6,h,h0]
theorem zec {l:List zab} {n:Nat} {s:zbp}(hn:zc3 s≤n)(h:zeC s=true)(h0:nextN l s=0):zj6 l n s=none:=by
 have:=zgF h
 match n,hn with
 | 0,hn=>omega
 | n+1,_=>simp[zj6,h,h0]
theorem zgz {l:List zab} {s:zbp}(h0:nextN l s≠0):1≤nextN l s∧nextN l s≤6∧zbg l s(nextN l s)=true∧∀j,1≤j→j<nextN l s→zbg l s j=false:=by
 rcases next_cases l s with⟨h,_⟩|h
 ·exact absurd h h0
 ·exact h
theorem zpo {l:List zab} {s:zbp}(h0:nextN l s=0):∀j,1≤j→j<7→zbg l s j=false:=by
 rcases next_cases l s with⟨_,h⟩|⟨h,_⟩
 ·exact h
 ·omega
theorem zfb {l:List zab} {s:zbp}(h0:nextN l s≠0):zc3(zdG s(nextN l s)false)+1=zc3 s:=by
 obtain⟨_,h6,hf,_⟩:=zgz h0
 exact zkY(by omega)(zdC hf).1
theorem ztn(l:List zab):∀(n m:Nat)(s:zbp),zc3 s≤n→zc3 s≤m→zj6 l n s=zj6 l m s:=by
 intro n
 induction n with
 | zero =>
   intro m s hn _
   rw[zbK(zdV(by omega)),zbK(zdV(by omega))]
 | succ n ih =>
   intro m s hn hm
   cases h:zeC s with
   | false=>rw[zbK h,zbK h]
   | true =>
     by_cases h0:nextN l s=0
     ·rw[zec hn h h0,zec hm h h0]
     ·have hc:=zfb h0
      rw[zes hn h h0,zes hm h h0,Nat.add_sub_cancel,ih(m-1)_(by omega)(by omega)]
theorem ordF_head {l:List zab} {n:Nat} {s:zbp} {o:List Int}(hn:zc3 s≤n)(h:zj6 l n s=some o):(o=[]∧zeC s=false)∨∃r,o=(nextN l s:Int)::r∧nextN l s≠0:=by
 cases ha:zeC s with
 | false=>rw[zbK ha]at h;exact .inl⟨(Option.some.inj h).symm,rfl⟩
 | true =>
   by_cases h0:nextN l s=0
   ·rw[zec hn ha h0]at h;cases h
   ·rw[zes hn ha h0]at h
    obtain⟨r,_,e⟩:=Option.map_eq_some_iff.1 h
    exact .inr⟨r,e.symm,h0⟩
theorem zkF(l:List zab):∀(n:Nat)(s:zbp)(o:List Int),zc3 s≤n→(∀k,s k=true→1≤k∧k≤6)→zj6 l n s=some o→∀x,x∈o↔∃t:Nat,x=(t:Int)∧s t=true:=by
 intro n
 induction n with
 | zero =>
   intro s o hn hs h x
   have ha:=zdV(s:=s)(by omega)
   rw[zbK ha]at h
   rw[←Option.some.inj h]
   refine⟨fun hx=>(by cases hx),?_⟩
   rintro⟨t,_,ht⟩
   rw[zf5 ha(by have:=hs t ht;omega)]at ht
   cases ht
 | succ n ih =>
   intro s o hn hs h x
   cases ha:zeC s with
   | false =>
     rw[zbK ha]at h
     rw[←Option.some.inj h]
     refine⟨fun hx=>(by cases hx),?_⟩
     rintro⟨t,_,ht⟩
     rw[zf5 ha(by have:=hs t ht;omega)]at ht
     cases ht
   | true =>
     by_cases h0:nextN l s=0
     ·rw[zec hn ha h0]at h;cases h
     ·rw[zes hn ha h0]at h
      obtain⟨r,hr,e⟩:=Option.map_eq_some_iff.1 h
      obtain⟨_,h6,hf,_⟩:=zgz h0
      have hc:=zfb h0
      have:=ih _ r(by omega)(fun k hk=>by
       by_cases e2:k=nextN l s
       ·rw[e2,zbe]at hk;cases hk
       ·rw[zaG s false e2]at hk;exact hs k hk)hr x
      rw[←e,List.mem_cons,this]
      constructor
      ·rintro(rfl|⟨t,rfl,ht⟩)
       ·exact⟨_,rfl,(zdC hf).1⟩
       ·refine⟨t,rfl,?_⟩
        by_cases e2:t=nextN l s
        ·rw[e2,zbe]at ht;cases ht
        ·rw[zaG s false e2]at ht;exact ht
      ·rintro⟨t,rfl,ht⟩
       by_cases e2:t=nextN l s
       ·exact .inl(by rw[e2])
       ·exact .inr⟨t,rfl,by rw[zaG s false e2];exact ht⟩
def onlyS(l:List zab)(s:zbp):zbp:=fun t=>s t && namedS l t
theorem zp7(l:List zab)(s:zbp):zc3(onlyS l s)≤zc3 s:=by
 have h:∀t,(onlyS l s t).toNat≤(s t).toNat:=fun t=>by
  unfold onlyS
  cases s t <;> cases namedS l t <;> simp
 unfold zc3
 have:=h 0;have:=h 1;have:=h 2;have:=h 3;have:=h 4;have:=h 5;have:=h 6
 omega
theorem zjh {l:List zab}(hr:zhC l)(s:zbp)(t:Nat)(ht:namedS l t=true):zbg l s t=zbg l(onlyS l s)t:=by
 unfold zbg
 have e1:onlyS l s t=s t:=by unfold onlyS;rw[ht,Bool.and_true]
 rw[e1]
 congr 2
 refine zyw fun e he=>?_
 obtain⟨x,y,rfl,hx,hy⟩:=hr.nat he
 have e2:onlyS l s x=s x:=by unfold onlyS;rw[named_from he,Bool.and_true]
 unfold zfZ
 simp only[Int.toNat_natCast,e2]
theorem zgK {l:List zab}(hr:zhC l)(s:zbp)(t:Nat)(ht:namedS l t=false):zbg l s t=s t:=by
 unfold zbg
 have e1:l.any(zfZ s t)=false:=by
  refine List.any_eq_false.2 fun e he=>?_
  obtain⟨x,y,rfl,hx,hy⟩:=hr.nat he
  have:y≠t:=fun e=>by rw[←e,named_to he]at ht;cases ht
  simp[zfZ]
  intro h;omega
 rw[e1];simp
theorem zjs {l:List zab}(s:zbp)(t:Nat)(ht:namedS l t=false):zbg l(onlyS l s)t=false:=by
 unfold zbg onlyS
 rw[ht];simp
theorem zub {l:List zab}(hr:zhC l):∀(n:Nat)(s:zbp)(fr:List Int)(m:Nat),zc3 s≤n→(∀k,s k=true→1≤k∧k≤6)→fr.Pairwise(· < ·) →
  (∀x,x∈fr↔∃t:Nat,x=(t:Int)∧s t=true∧namedS l t=false)→zc3(onlyS l s)≤m→zj6 l n s=(zj6 l m(onlyS l s)).map fun b=>weaveL b fr:=by
 intro n
 induction n with
 | zero =>
   intro s fr m hn hs hf hm hc
   have ha:=zdV(s:=s)(by omega)
   have hfr:fr=[]:=List.eq_nil_iff_forall_not_mem.2 fun x hx=>by
    obtain⟨t,_,ht,_⟩:=(hm x).1 hx
    rw[zf5 ha(by have:=hs t ht;omega)]at ht
    cases ht
   have hao:zeC(onlyS l s)=false:=zdV(by have:=zp7 l s;omega)
   rw[zbK ha,zbK hao,hfr];rfl
 | succ n ih =>
   intro s fr m hn hs hf hm hc
   cases ha:zeC s with
   | false =>
     have hfr:fr=[]:=List.eq_nil_iff_forall_not_mem.2 fun x hx=>by
      obtain⟨t,_,ht,_⟩:=(hm x).1 hx
      rw[zf5 ha(by have:=hs t ht;omega)]at ht
      cases ht
     have hao:zeC(onlyS l s)=false:=zdV(by have:=zp7 l s;have:=zAf ha;omega)
     rw[zbK ha,zbK hao,hfr];rfl
   | true =>
     have hso:∀k,onlyS l s k=true→1≤k∧k≤6:=fun k hk=>hs k(by unfold onlyS at hk;simp at hk;exact hk.1)
     cases fr with
     | nil =>
       have e:onlyS l s=s:=by
        funext t
        unfold onlyS
        cases h1:s t with
        | false=>rfl
        | true =>
          cases h2:namedS l t with
          | true=>rfl
          | false=>exact absurd((hm t).2⟨t,rfl,h1,h2⟩)(by simp)
       rw[e]at hc ⊢
       rw[ztn l(n+1)m s hn hc]
       have:(fun b=>weaveL b [])=(id:List Int→List Int):=funext weave_nil
       rw[this,Option.map_id];rfl
     | cons f fr =>
       obtain⟨t,rfl,hst,hnt⟩:=(hm f).1(List.mem_cons_self ..)
       have ht:=hs t hst
       obtain⟨f1,f2⟩:=List.pairwise_cons.1 hf
       have hleast:∀j:Nat,j<t→s j=true→namedS l j=true:=fun j hj h1=>by
        cases h2:namedS l j with
        | true=>rfl
        | false =>
          rcases List.mem_cons.1((hm j).2⟨j,rfl,h1,h2⟩)with h3|h3
          ·omega
          ·have:=f1 _ h3;omega
       by_cases hb:nextN l(onlyS l s)=0∨t<nextN l(onlyS l s)
       ·have hnx:nextN l s=t:=by
         refine zhF ht.1 ht.2(by rw[zgK hr s t hnt];exact hst)fun j hj1 hj=>?_
         cases h2:namedS l j with
         | false =>
           rw[zgK hr s j h2]
           cases h1:s j with
           | false=>rfl
           | true=>rw[hleast j hj h1]at h2;cases h2
         | true =>
           rw[zjh hr s j h2]
           rcases hb with hb|hb
           ·exact zpo hb j hj1(by omega)
           ·exact(zgz(by omega)).2.2.2 j hj1(by omega)
        have h0:nextN l s≠0:=by omega
        have hcn:=zfb h0
        have eo:onlyS l(zdG s t false)=onlyS l s:=by
         funext k
         unfold onlyS
         by_cases e:k=t
         ·rw[e,hnt];simp
         ·rw[zaG s false e]
        have h1:=ih(zdG s t false)fr m(by rw[hnx]at hcn;omega)(fun k hk=>by
         by_cases e:k=t
         ·rw[e,zbe]at hk;cases hk
         ·rw[zaG s false e]at hk;exact hs k hk)f2(fun x=>by
          constructor
          ·intro hx
           obtain⟨k,rfl,hk1,hk2⟩:=(hm x).1(List.mem_cons_of_mem _ hx)
           have:=f1 _ hx
           exact⟨k,rfl,by rw[zaG s false(by omega)];exact hk1,hk2⟩
          ·rintro⟨k,rfl,hk1,hk2⟩
           by_cases e:k=t
           ·rw[e,zbe]at hk1;cases hk1
           ·rw[zaG s false e]at hk1
            rcases List.mem_cons.1((hm k).2⟨k,rfl,hk1,hk2⟩)with h3|h3
            ·omega
            ·exact h3)(by rw[eo];exact hc)
        rw[zes hn ha h0,hnx,Nat.add_sub_cancel,h1,eo,Option.map_map]
        cases ho:zj6 l m(onlyS l s)with
        | none=>rfl
        | some o =>
          simp only[Option.map_some,Function.comp]
          congr 1
          rcases ordF_head hc ho with⟨rfl,_⟩|⟨r,rfl,h3⟩
          ·rfl
          ·rcases hb with hb|hb
           ·exact absurd hb h3
           ·rw[zjM(by omega)]
       ·have hb0:nextN l(onlyS l s)≠0:=fun h=>hb(.inl h)
        obtain⟨b1,b6,bf,bl⟩:=zgz hb0
        have bn:namedS l(nextN l(onlyS l s))=true:=by
         cases h2:namedS l(nextN l(onlyS l s))with
         | true=>rfl
         | false=>rw[zjs s _ h2]at bf;cases bf
        have hbt:nextN l(onlyS l s)≠t:=fun e=>by rw[e,hnt]at bn;cases bn
        have hlt:nextN l(onlyS l s)<t:=by
         rcases Nat.lt_trichotomy t(nextN l(onlyS l s))with h|h|h
         ·exact absurd(Or.inr h)hb
         ·exact absurd h.symm hbt
         ·exact h
        have hnx:nextN l s=nextN l(onlyS l s):=by
         refine zhF b1 b6(by rw[zjh hr s _ bn];exact bf)fun j hj1 hj=>?_
         cases h2:namedS l j with
         | false =>
           rw[zgK hr s j h2]
           cases h1:s j with
           | false=>rfl
           | true=>rw[hleast j(by omega)h1]at h2;cases h2
         | true=>rw[zjh hr s j h2];exact bl j hj1 hj
        obtain⟨b,hbe⟩:∃b,nextN l(onlyS l s)=b:=⟨_,rfl⟩
        rw[hbe]at hnx hlt bn bf b1 b6 hbt
        have h0:nextN l s≠0:=by omega
        have hcn:=zfb h0
        have hco:=zfb hb0
        have hao:zeC(onlyS l s)=true:=zxG(by omega)(zdC bf).1
        have eo:onlyS l(zdG s b false)=zdG(onlyS l s)b false:=by
         funext k
         unfold onlyS zdG
         by_cases e:k=b
         ·simp[e]
         ·simp[e]
        have h1:=ih(zdG s b false)(t::fr)(m-1)(by rw[hnx]at hcn;omega)(fun k hk=>by
         by_cases e:k=b
         ·rw[e,zbe]at hk;cases hk
         ·rw[zaG s false e]at hk;exact hs k hk)hf(fun x=>by
          rw[hm x]
          constructor
          ·rintro⟨k,rfl,hk1,hk2⟩
           have:k≠b:=fun e=>by rw[e,bn]at hk2;cases hk2
           exact⟨k,rfl,by rw[zaG s false this];exact hk1,hk2⟩
          ·rintro⟨k,rfl,hk1,hk2⟩
           have:k≠b:=fun e=>by rw[e,bn]at hk2;cases hk2
           rw[zaG s false this]at hk1
           exact⟨k,rfl,hk1,hk2⟩)(by rw[eo];rw[hbe]at hco;omega)
        rw[zes hn ha h0,hnx,Nat.add_sub_cancel,h1,eo,zes hc hao hb0,hbe,Option.map_map,Option.map_map]
        congr 1
        funext o
        simp only[Function.comp]
        rw[zgR(by omega)]
def zxu(d:List Int)(l:List zab):Option(List Int):=orderGo l 7(zm2 d []) []
theorem zpd {d:List Int} {l:List zab}(hr:zhC l)(hd:d.Pairwise(· < ·))(hdeal:∀x∈d,1≤x∧x≤6)(hin:∀x∈namedI l,x∈d) :
  zxu d l=(zcM l).map fun b=>weaveL b(d.filter fun x=>!inB b x):=by
 unfold zxu zcM
 have hls:∀t:Nat,zm2 d []t=inB d(t:Int):=fun t=>by
  unfold zm2
  rw[zi4.2(by simp:(t:Int) ∉ ([]:List Int))]
  simp
 have eo:onlyS l(zm2 d [])=namedS l:=by
  funext t
  unfold onlyS
  rw[hls]
  cases h:namedS l t with
  | false=>simp
  | true =>
    rw[zf4]at h
    rw[za0.2(hin _(za0.1 h))];rfl
 have h1:=zub hr 7(zm2 d [])(d.filter fun x=>!inB(namedI l)x)7(cnt_le _)(fun k hk=>by
  rw[hls,za0]at hk
  have:=hdeal _ hk
  omega)(hd.sublist List.filter_sublist)(fun x=>by
   rw[List.mem_filter]
   constructor
   ·rintro⟨h1,h2⟩
    have:=hdeal x h1
    refine⟨x.toNat,by omega,?_,?_⟩
    ·rw[hls,Int.toNat_of_nonneg(by omega)];exact za0.2 h1
    ·rw[zf4,Int.toNat_of_nonneg(by omega)];simpa using h2
   ·rintro⟨t,rfl,h1,h2⟩
    rw[hls]at h1
    rw[zf4]at h2
    exact⟨za0.1 h1,by rw[h2];rfl⟩)(cnt_le _)
 rw[zia,zia,h1,eo]
 cases ho:zj6 l 7(namedS l)with
 | none=>rfl
 | some o =>
   simp only[Option.map_some,List.nil_append]
   congr 2
   refine List.filter_congr fun x hx=>?_
   congr 1
   have hm:=zkF l 7(namedS l)o(cnt_le _)(named_right hr)ho x
   have hxd:=hdeal x hx
   rw[Bool.eq_iff_iff,za0,za0,hm]
   constructor
   ·intro h
    refine⟨x.toNat,by omega,?_⟩
    rw[zf4,Int.toNat_of_nonneg(by omega)]
    exact za0.2 h
   ·rintro⟨t,rfl,h⟩
    rw[zf4]at h
    exact za0.1 h
theorem zdb {d:List Op3} {i:Nat}(h:i<d.length):opAt d i=d[i]:=by
 unfold opAt
 simp[List.getD,List.getElem?_eq_getElem h]
def ltB(a x:zab):Bool:=decide(a.1<x.1) || (a.1 == x.1 && decide(a.2<x.2))
theorem zkP {a x:zab}:ltB a x=true↔(a.1<x.1∨a.1=x.1∧a.2<x.2):=by simp[ltB]
def znF(l:List zab):Prop:=l.Pairwise fun a b=>ltB a b=true
def zvL:List zab→zab→List zab
 | [],x=>[x]
 | a::r,x=>if ltB a x=true then a::zvL r x else if a=x then a::r else x::a::r
theorem addE_mem(l:List zab)(x y:zab):y∈zvL l x↔y=x∨y∈l:=by
 induction l with
 | nil=>simp[zvL]
 | cons a r ih =>
   simp only[zvL]
   split
   ·simp only[List.mem_cons,ih]
    constructor
    ·rintro(h|h|h)
     ·exact .inr(.inl h)
     ·exact .inl h
     ·exact .inr(.inr h)
    ·rintro(h|h|h)
     ·exact .inr(.inl h)
     ·exact .inl h
     ·exact .inr(.inr h)
   ·split
    ·rename_i h
     subst h
     simp only[List.mem_cons]
     constructor
     ·rintro(h|h)
      ·exact .inl h
      ·exact .inr(.inr h)
     ·rintro(h|h|h)
      ·exact .inl h
      ·exact .inl h
      ·exact .inr h
    ·simp
theorem zvJ(l:List zab)(x:zab)(h:znF l):znF(zvL l x):=by
 induction l with
 | nil=>simp[zvL,znF]
 | cons a r ih =>
   obtain⟨h1,h2⟩:=List.pairwise_cons.1 h
   simp only[zvL]
   split
   ·rename_i hx
    refine List.pairwise_cons.2⟨fun y hy=>?_,ih h2⟩
    rcases(addE_mem r x y).1 hy with rfl|hy
    ·exact hx
    ·exact h1 y hy
   ·split
    ·exact h
    ·rename_i h3 h4
     refine List.pairwise_cons.2⟨fun y hy=>?_,h⟩
     have hxa:ltB x a=true:=by
      rw[zkP]
      have h5:¬(a.1<x.1∨a.1=x.1∧a.2<x.2):=fun hh=>h3(zkP.2 hh)
      have h6:¬(a.1=x.1∧a.2=x.2):=fun hh=>h4(Prod.ext hh.1 hh.2)
      omega
     rcases List.mem_cons.1 hy with rfl|hy
     ·exact hxa
     ·have h7:=h1 y hy
      rw[zkP]at hxa h7 ⊢
      omega
theorem ztj:∀(l m:List zab),znF l→znF m→(∀e,e∈l↔e∈m)→l=m:=by
 intro l
 induction l with
 | nil =>
   intro m _ _ h
   cases m with
   | nil=>rfl
   | cons b s=>exact absurd((h b).2(List.mem_cons_self ..))(by simp)
 | cons a r ih =>
   intro m hl hm h
   cases m with
   | nil=>exact absurd((h a).1(List.mem_cons_self ..))(by simp)
   | cons b s =>
     obtain⟨l1,l2⟩:=List.pairwise_cons.1 hl
     obtain⟨m1,m2⟩:=List.pairwise_cons.1 hm
     have irr:∀e:zab,ltB e e=false:=fun e=>by simp[ltB]
     have hab:a=b:=by
      rcases List.mem_cons.1((h a).1(List.mem_cons_self ..))with e|ha
      ·exact e
      ·rcases List.mem_cons.1((h b).2(List.mem_cons_self ..))with e|hb
       ·exact e.symm
       ·have k1:=m1 a ha
        have k2:=l1 b hb
        rw[zkP]at k1 k2
        omega
     subst hab
     congr 1
     refine ih s l2 m2 fun e=>⟨fun he=>?_,fun he=>?_⟩
     ·rcases List.mem_cons.1((h e).1(List.mem_cons_of_mem _ he))with rfl|h3
      ·have:=l1 e he
       rw[irr]at this;cases this
      ·exact h3
     ·rcases List.mem_cons.1((h e).2(List.mem_cons_of_mem _ he))with rfl|h3
      ·have:=m1 e he
       rw[irr]at this;cases this
      ·exact h3
def zgj(d:List Op3)(p:zab):zab:=((opAt d p.1.toNat).1,(opAt d p.2.toNat).1)
def znN:List zab:=(List.range 36).map fun n=>(((n / 6+1:Nat):Int),((n % 6+1:Nat):Int))
theorem znh:znF znN:=by unfold znF;decide
def zi6(d:List Op3)(e:zab):Bool:=(pairsL d).any fun p=>zgj d p == e
def zaJ(d:List Op3)(n:Nat):List zab:=(znN.take n).filter(zi6 d)
theorem zlz(n:Nat)(h:n<36):znN.take(n+1)=znN.take n++[(((n / 6+1:Nat):Int),((n % 6+1:Nat):Int))]:=by
 have hl:n<znN.length:=by simpa[znN]using h
 rw[List.take_succ_eq_append_getElem hl]
 simp[znN]
theorem zoe {d:List Op3} {i j:Nat}(hi:i<6)(hj:j<6)(h:zi6 d(((i+1:Nat):Int),((j+1:Nat):Int))=true):zaJ d(6*i+(j+1))=zaJ d(6*i+j)++[(((i+1:Nat):Int),((j+1:Nat):Int))]:=by
 unfold zaJ
 rw[←Nat.add_assoc,zlz _(by omega),show(6*i+j) / 6=i by omega,show(6*i+j) % 6=j by omega,List.filter_append]
 simp only[List.filter_cons,h,if_true,List.filter_nil]
theorem zmy {d:List Op3} {i j:Nat}(hi:i<6)(hj:j<6)(h:zi6 d(((i+1:Nat):Int),((j+1:Nat):Int))=false):zaJ d(6*i+(j+1))=zaJ d(6*i+j):=by
 unfold zaJ
 rw[←Nat.add_assoc,zlz _(by omega),show(6*i+j) / 6=i by omega,show(6*i+j) % 6=j by omega,List.filter_append]
 rw[List.filter_cons,h]
 simp
theorem zjc(d:List Op3)(n:Nat):(zaJ d n).length≤36:=by
 unfold zaJ
 have h1:=List.length_filter_le(zi6 d)(znN.take n)
 have h2:=List.length_take_le' n znN
 have h3:znN.length=36:=by simp[znN]
 omega
theorem zqv {a b:Int}(h1:1≤a)(h2:a≤6)(h3:1≤b)(h4:b≤6):(a,b)∈znN:=by
 unfold znN
 refine List.mem_map.2⟨6*(a.toNat-1)+(b.toNat-1),List.mem_range.2(by omega),?_⟩
 refine Prod.ext ?_ ?_ <;> simp <;> omega
theorem zox {ps d:List Int}(hn:ps.Nodup)(hd:d.Pairwise(· < ·))(h:∀x,x∈ps↔x∈d):sortI ps=d:=by
 have h1:(sortI ps).Nodup:=(zaz ps).nodup_iff.2 hn
 rw[List.nodup_iff_pairwise_ne]at h1
 exact zeT _ _(((zdd ps).and h1).imp fun {a b}hab=>by omega)hd fun x=>((zaz ps).mem_iff).trans(h x)
theorem zfE(d:List Op3)(n:Nat):zhC(zaJ d n):=fun e he=>by
 have h1:=(List.mem_filter.1 he).1
 have h2:=List.mem_of_mem_take h1
 unfold znN at h2
 obtain⟨k,hk,rfl⟩:=List.mem_map.1 h2
 have:=List.mem_range.1 hk
 simp only
 omega
theorem zs8(d:List Op3)(n:Nat):zj7(zaJ d n)=0:=by
 have h1:=zjc d n
 unfold zj7
 rw[if_neg(by omega),if_neg]
 intro h
 obtain⟨e,he,h2⟩:=List.any_eq_true.1 h
 have:=zfE d n e he
 simp[zd3,zex,this]at h2
end Go.Proofs.YthlhgiihngcobaaGreatDoor
