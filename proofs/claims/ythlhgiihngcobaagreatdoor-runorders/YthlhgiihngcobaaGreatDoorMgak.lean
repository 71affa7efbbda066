/-
  PROVED HERE: plain facts, with no word of the program; plain facts, with no word of the program; plain facts on lists, with no word of the program; plain facts, with no word of the program.
  Conditions: none but those that each theorem's own premises say.
-/
import Derived.Test.YthlhgiihngcobaaGreatDoorMgaj
import Derived.Test.YthlhgiihngcobaaGreatDoorMgag
set_option maxHeartbeats 32000000
set_option maxRecDepth 100000
namespace Go.Proofs.YthlhgiihngcobaaGreatDoor
def weaveL:List Int->List Int->List Int
 | [],fr=>fr
 | b::bs,fr=>fr.takeWhile (fun x=>decide (x<b))++b::weaveL bs (fr.dropWhile fun x=>decide (x<b))
theorem weave_nil(b:List Int):weaveL b []=b:=by
 induction b with
 | nil=>rfl
 | cons a r ih=>simp[weaveL,ih]
theorem ze4{b f:Int}{bs fr:List Int}(h:f<b):weaveL (b::bs) (f::fr)=f::weaveL (b::bs) fr:=by simp[weaveL,h]
theorem zdk{b f:Int}{bs fr:List Int}(h:¬f<b):weaveL (b::bs) (f::fr)=b::weaveL bs (f::fr):=by simp[weaveL,h]
theorem zgv(b:List Int):∀fr,(weaveL b fr).length=b.length+fr.length:=by
 induction b with
 | nil=>intro fr;simp[weaveL]
 | cons a r ih =>intro fr;have h1:=List.takeWhile_append_dropWhile (p:=fun x=>decide (x<a)) (l:=fr);have h2:=congrArg List.length h1;rw[List.length_append]at h2;simp only[weaveL,List.length_append,List.length_cons,ih];omega
def zeO(l:List zaa):Nat->zaK->Option (List Int)
 | 0,_=>some []
 | n+1,s=>if zb4 s=true then(if nextN l s=0 then none else(zeO l n (zcL s (nextN l s) false)).map ((nextN l s:Int) :: ·))else some []
theorem zc0(l:List zaa):∀(n:Nat) (s:zaK) (out:List Int),orderGo l n s out=(zeO l n s).map (out ++ ·):=by
 intro n
 induction n with
 | zero=>intro s out;simp[orderGo,zeO]
 | succ n ih =>
   intro s out;simp only[orderGo,zeO];split
   ·split
    ·rfl
    ·rw[ih,Option.map_map];congr 1
     funext x
     simp
   ·simp
theorem ordF_end{l:List zaa}{s:zaK}(h:zb4 s=false):∀n,zeO l n s=some []:=by
 intro n;cases n with
 | zero=>rfl
 | succ n=>simp[zeO,h]
theorem zhH{s:zaK}{t:Nat}(ht:t<7)(h:s t=true):zb4 s=true:=List.any_eq_true.2 ⟨t,List.mem_range.2 ht,h⟩
theorem zdf{s:zaK}(h:zb4 s=false){t:Nat}(ht:t<7):s t=false:=by have:=List.any_eq_false.1 h t (List.mem_range.2 ht);simpa using this
theorem cnt_zero{s:zaK}(h:zcs s=0):zb4 s=false:=by
 cases h2:zb4 s with
 | false=>rfl
 | true=>have:=zdx h2;omega
theorem zbR{l:List zaa}{n:Nat}{s:zaK}(hn:zcs s<=n)(h:zb4 s=true)(h0:nextN l s≠0):zeO l n s=(zeO l (n-1) (zcL s (nextN l s) false)).map ((nextN l s:Int) :: ·):=by
 have:=zdx h
 match n,hn with
 | 0,hn=>omega
 | n+1,_=>simp[zeO,h,h0]
theorem zb6{l:List zaa}{n:Nat}{s:zaK}(hn:zcs s<=n)(h:zb4 s=true)(h0:nextN l s=0):zeO l n s=none:=by
 have:=zdx h
 match n,hn with
 | 0,hn=>omega
 | n+1,_=>simp[zeO,h,h0]
theorem zcX{l:List zaa}{s:zaK}(h0:nextN l s≠0):1<=nextN l s/\nextN l s<=6/\zau l s (nextN l s)=true/\∀j,1<=j->j<nextN l s->zau l s j=false:=by
 rcases next_cases l s with⟨h,_⟩ | h
 ·exact absurd h h0
 ·exact h
theorem zhp{l:List zaa}{s:zaK}(h0:nextN l s=0):∀j,1<=j->j<7->zau l s j=false:=by
 rcases next_cases l s with⟨_,h⟩ | ⟨h,_⟩
 ·exact h
 ·omega
theorem zbN{l:List zaa}{s:zaK}(h0:nextN l s≠0):zcs (zcL s (nextN l s) false)+1=zcs s:=by obtain⟨_,h6,hf,_⟩:=zcX h0;exact zgF (by omega) (zbi hf).1
theorem zjX(l:List zaa):∀(n m:Nat) (s:zaK),zcs s<=n->zcs s<=m->zeO l n s=zeO l m s:=by
 intro n
 induction n with
 | zero =>intro m s hn _;rw[ordF_end (cnt_zero (by omega)),ordF_end (cnt_zero (by omega))]
 | succ n ih =>
   intro m s hn hm;cases h:zb4 s with
   | false=>rw[ordF_end h,ordF_end h]
   | true =>
     by_cases h0:nextN l s=0
     ·rw[zb6 hn h h0,zb6 hm h h0]
     ·have hc:=zbN h0;rw[zbR hn h h0,zbR hm h h0,Nat.add_sub_cancel,ih (m-1) _ (by omega) (by omega)]
theorem ordF_head{l:List zaa}{n:Nat}{s:zaK}{o:List Int}(hn:zcs s<=n)(h:zeO l n s=some o):(o=[]/\zb4 s=false)\/∃r,o=(nextN l s:Int)::r/\nextN l s≠0:=by
 cases ha:zb4 s with
 | false=>rw[ordF_end ha]at h;exact .inl ⟨(Option.some.inj h).symm,rfl⟩
 | true =>
   by_cases h0:nextN l s=0
   ·rw[zb6 hn ha h0]at h;cases h
   ·rw[zbR hn ha h0]at h;obtain⟨r,_,e⟩:=Option.map_eq_some_iff.1 h;exact .inr ⟨r,e.symm,h0⟩
theorem zfj(l:List zaa):∀(n:Nat) (s:zaK) (o:List Int),zcs s<=n->(∀k,s k=true->1<=k/\k<=6)->zeO l n s=some o->∀x,x∈o↔∃t:Nat,x=(t:Int)/\s t=true:=by
 intro n
 induction n with
 | zero =>intro s o hn hs h x;have ha:=cnt_zero (s:=s) (by omega);rw[ordF_end ha]at h;rw[<-Option.some.inj h];refine⟨fun hx=>(by cases hx),?_⟩;rintro⟨t,_,ht⟩;rw[zdf ha (by have:=hs t ht;omega)]at ht;cases ht
 | succ n ih =>
   intro s o hn hs h x;cases ha:zb4 s with
   | false =>rw[ordF_end ha]at h;rw[<-Option.some.inj h];refine⟨fun hx=>(by cases hx),?_⟩;rintro⟨t,_,ht⟩;rw[zdf ha (by have:=hs t ht;omega)]at ht;cases ht
   | true =>
     by_cases h0:nextN l s=0
     ·rw[zb6 hn ha h0]at h;cases h
     ·rw[zbR hn ha h0]at h;obtain⟨r,hr,e⟩:=Option.map_eq_some_iff.1 h;obtain⟨_,h6,hf,_⟩:=zcX h0;have hc:=zbN h0
      have:=ih _ r (by omega) (fun k hk=>by
       by_cases e2:k=nextN l s
       ·rw[e2,zaI]at hk;cases hk
       ·rw[zap s false e2]at hk;exact hs k hk) hr x
      rw[<-e,List.mem_cons,this];constructor
      ·rintro(rfl | ⟨t,rfl,ht⟩)
       ·exact⟨_,rfl,(zbi hf).1⟩
       ·refine⟨t,rfl,?_⟩;by_cases e2:t=nextN l s
        ·rw[e2,zaI]at ht;cases ht
        ·rw[zap s false e2]at ht;exact ht
      ·rintro⟨t,rfl,ht⟩;by_cases e2:t=nextN l s
       ·exact .inl (by rw[e2])
       ·exact .inr ⟨t,rfl,by rw[zap s false e2];exact ht⟩
def onlyS(l:List zaa)(s:zaK):zaK:=fun t=>s t && namedS l t
theorem zhB(l:List zaa)(s:zaK):zcs (onlyS l s)<=zcs s:=by
 have h:∀t,(onlyS l s t).toNat<=(s t).toNat:=fun t=>by unfold onlyS;cases s t <;> cases namedS l t <;> simp
 unfold zcs;have:=h 0;have:=h 1;have:=h 2;have:=h 3;have:=h 4;have:=h 5;have:=h 6;omega
theorem zeo{l:List zaa}(hr:zeN l)(s:zaK)(t:Nat)(ht:namedS l t=true):zau l s t=zau l (onlyS l s) t:=by
 unfold zau;have e1:onlyS l s t=s t:=by unfold onlyS;rw[ht,Bool.and_true]
 rw[e1];congr 2;refine zlx fun e he=>?_;obtain⟨x,y,rfl,hx,hy⟩:=hr.nat he;have e2:onlyS l s x=s x:=by unfold onlyS;rw[named_from he,Bool.and_true]
 unfold holdB;simp only[Int.toNat_natCast,e2]
theorem zdo{l:List zaa}(hr:zeN l)(s:zaK)(t:Nat)(ht:namedS l t=false):zau l s t=s t:=by
 unfold zau
 have e1:l.any (holdB s t)=false:=by
  refine List.any_eq_false.2 fun e he=>?_;obtain⟨x,y,rfl,hx,hy⟩:=hr.nat he;have:y≠t:=fun e=>by rw[<-e,named_to he]at ht;cases ht
  simp[holdB];intro h;omega
 rw[e1];simp
theorem zeL{l:List zaa}(s:zaK)(t:Nat)(ht:namedS l t=false):zau l (onlyS l s) t=false:=by unfold zau onlyS;rw[ht];simp
theorem zjY{l:List zaa}(hr:zeN l):∀(n:Nat) (s:zaK) (fr:List Int) (m:Nat),zcs s<=n->(∀k,s k=true->1<=k/\k<=6)->fr.Pairwise (· < ·) ->
  (∀x,x∈fr↔∃t:Nat,x=(t:Int)/\s t=true/\namedS l t=false)->zcs (onlyS l s)<=m->zeO l n s=(zeO l m (onlyS l s)).map fun b=>weaveL b fr:=by
 intro n
 induction n with
 | zero =>
   intro s fr m hn hs hf hm hc;have ha:=cnt_zero (s:=s) (by omega);have hfr:fr=[]:=List.eq_nil_iff_forall_not_mem.2 fun x hx=>by obtain⟨t,_,ht,_⟩:=(hm x).1 hx;rw[zdf ha (by have:=hs t ht;omega)]at ht;cases ht
   have hao:zb4 (onlyS l s)=false:=cnt_zero (by have:=zhB l s;omega);rw[ordF_end ha,ordF_end hao,hfr];rfl
 | succ n ih =>
   intro s fr m hn hs hf hm hc;cases ha:zb4 s with
   | false =>
     have hfr:fr=[]:=List.eq_nil_iff_forall_not_mem.2 fun x hx=>by obtain⟨t,_,ht,_⟩:=(hm x).1 hx;rw[zdf ha (by have:=hs t ht;omega)]at ht;cases ht
     have hao:zb4 (onlyS l s)=false:=cnt_zero (by have:=zhB l s;have:=zmy ha;omega);rw[ordF_end ha,ordF_end hao,hfr];rfl
   | true =>
     have hso:∀k,onlyS l s k=true->1<=k/\k<=6:=fun k hk=>hs k (by unfold onlyS at hk;simp at hk;exact hk.1);cases fr with
     | nil =>
       have e:onlyS l s=s:=by
        funext t
        unfold onlyS;cases h1:s t with
        | false=>rfl
        | true =>
          cases h2:namedS l t with
          | true=>rfl
          | false=>exact absurd ((hm t).2 ⟨t,rfl,h1,h2⟩) (by simp)
       rw[e]at hc ⊢;rw[zjX l (n+1) m s hn hc];have:(fun b=>weaveL b [])=(id:List Int->List Int):=funext weave_nil;rw[this,Option.map_id];rfl
     | cons f fr =>
       obtain⟨t,rfl,hst,hnt⟩:=(hm f).1 (List.mem_cons_self ..);have ht:=hs t hst;obtain⟨f1,f2⟩:=List.pairwise_cons.1 hf
       have hleast:∀j:Nat,j<t->s j=true->namedS l j=true:=fun j hj h1=>by
        cases h2:namedS l j with
        | true=>rfl
        | false =>
          rcases List.mem_cons.1 ((hm j).2 ⟨j,rfl,h1,h2⟩)with h3 | h3
          ·omega
          ·have:=f1 _ h3;omega
       by_cases hb:nextN l (onlyS l s)=0\/t<nextN l (onlyS l s)
       ·have hnx:nextN l s=t:=by
         refine zc5 ht.1 ht.2 (by rw[zdo hr s t hnt];exact hst) fun j hj1 hj=>?_;cases h2:namedS l j with
         | false =>
           rw[zdo hr s j h2];cases h1:s j with
           | false=>rfl
           | true=>rw[hleast j hj h1]at h2;cases h2
         | true =>
           rw[zeo hr s j h2];rcases hb with hb | hb
           ·exact zhp hb j hj1 (by omega)
           ·exact(zcX (by omega)).2.2.2 j hj1 (by omega)
        have h0:nextN l s≠0:=by omega
        have hcn:=zbN h0
        have eo:onlyS l (zcL s t false)=onlyS l s:=by
         funext k
         unfold onlyS;by_cases e:k=t
         ·rw[e,hnt];simp
         ·rw[zap s false e]
        have h1:=ih (zcL s t false) fr m (by rw[hnx]at hcn;omega) (fun k hk=>by
         by_cases e:k=t
         ·rw[e,zaI]at hk;cases hk
         ·rw[zap s false e]at hk;exact hs k hk) f2 (fun x=>by
          constructor
          ·intro hx;obtain⟨k,rfl,hk1,hk2⟩:=(hm x).1 (List.mem_cons_of_mem _ hx);have:=f1 _ hx;exact⟨k,rfl,by rw[zap s false (by omega)];exact hk1,hk2⟩
          ·rintro⟨k,rfl,hk1,hk2⟩;by_cases e:k=t
           ·rw[e,zaI]at hk1;cases hk1
           ·rw[zap s false e]at hk1;rcases List.mem_cons.1 ((hm k).2 ⟨k,rfl,hk1,hk2⟩)with h3 | h3
            ·omega
            ·exact h3) (by rw[eo];exact hc)
        rw[zbR hn ha h0,hnx,Nat.add_sub_cancel,h1,eo,Option.map_map];cases ho:zeO l m (onlyS l s)with
        | none=>rfl
        | some o =>
          simp only[Option.map_some,Function.comp];congr 1;rcases ordF_head hc ho with⟨rfl,_⟩ | ⟨r,rfl,h3⟩
          ·rfl
          ·rcases hb with hb | hb
           ·exact absurd hb h3
           ·rw[ze4 (by omega)]
       ·have hb0:nextN l (onlyS l s)≠0:=fun h=>hb (.inl h);obtain⟨b1,b6,bf,bl⟩:=zcX hb0
        have bn:namedS l (nextN l (onlyS l s))=true:=by
         cases h2:namedS l (nextN l (onlyS l s))with
         | true=>rfl
         | false=>rw[zeL s _ h2]at bf;cases bf
        have hbt:nextN l (onlyS l s)≠t:=fun e=>by rw[e,hnt]at bn;cases bn
        have hlt:nextN l (onlyS l s)<t:=by
         rcases Nat.lt_trichotomy t (nextN l (onlyS l s))with h | h | h
         ·exact absurd (Or.inr h) hb
         ·exact absurd h.symm hbt
         ·exact h
        have hnx:nextN l s=nextN l (onlyS l s):=by
         refine zc5 b1 b6 (by rw[zeo hr s _ bn];exact bf) fun j hj1 hj=>?_;cases h2:namedS l j with
         | false =>
           rw[zdo hr s j h2];cases h1:s j with
           | false=>rfl
           | true=>rw[hleast j (by omega) h1]at h2;cases h2
         | true=>rw[zeo hr s j h2];exact bl j hj1 hj
        obtain⟨b,hbe⟩:∃b,nextN l (onlyS l s)=b:=⟨_,rfl⟩;rw[hbe]at hnx hlt bn bf b1 b6 hbt;have h0:nextN l s≠0:=by omega
        have hcn:=zbN h0;have hco:=zbN hb0;have hao:zb4 (onlyS l s)=true:=zhH (by omega) (zbi bf).1
        have eo:onlyS l (zcL s b false)=zcL (onlyS l s) b false:=by
         funext k
         unfold onlyS zcL;by_cases e:k=b
         ·simp[e]
         ·simp[e]
        have h1:=ih (zcL s b false) (t::fr) (m-1) (by rw[hnx]at hcn;omega) (fun k hk=>by
         by_cases e:k=b
         ·rw[e,zaI]at hk;cases hk
         ·rw[zap s false e]at hk;exact hs k hk) hf (fun x=>by
          rw[hm x];constructor
          ·rintro⟨k,rfl,hk1,hk2⟩;have:k≠b:=fun e=>by rw[e,bn]at hk2;cases hk2
           exact⟨k,rfl,by rw[zap s false this];exact hk1,hk2⟩
          ·rintro⟨k,rfl,hk1,hk2⟩;have:k≠b:=fun e=>by rw[e,bn]at hk2;cases hk2
           rw[zap s false this]at hk1;exact⟨k,rfl,hk1,hk2⟩) (by rw[eo];rw[hbe]at hco;omega)
        rw[zbR hn ha h0,hnx,Nat.add_sub_cancel,h1,eo,zbR hc hao hb0,hbe,Option.map_map,Option.map_map];congr 1
        funext o
        simp only[Function.comp];rw[zdk (by omega)]
def zim(d:List Int)(l:List zaa):Option (List Int):=orderGo l 7 (zfH d []) []
theorem zd3{d:List Int}{l:List zaa}(hr:zeN l)(hd:d.Pairwise (· < ·))(hdeal:∀x∈d,1<=x/\x<=6)(hin:∀x∈namedI l,x∈d):zim d l=(zbm l).map fun b=>weaveL b (d.filter fun x=>!inB b x):=by
 unfold zim zbm;have hls:∀t:Nat,zfH d [] t=inB d (t:Int):=fun t=>by unfold zfH;rw[zfn.2 (by simp:(t:Int) ∉ ([]:List Int))];simp
 have eo:onlyS l (zfH d [])=namedS l:=by
  funext t
  unfold onlyS;rw[hls];cases h:namedS l t with
  | false=>simp
  | true =>rw[zcU]at h;rw[zaT.2 (hin _ (zaT.1 h))];rfl
 have h1:=zjY hr 7 (zfH d []) (d.filter fun x=>!inB (namedI l) x) 7 (cnt_le _) (fun k hk=>by
  rw[hls,zaT]at hk;have:=hdeal _ hk
  omega) (hd.sublist List.filter_sublist) (fun x=>by
   rw[List.mem_filter];constructor
   ·rintro⟨h1,h2⟩;have:=hdeal x h1;refine⟨x.toNat,by omega,?_,?_⟩
    ·rw[hls,Int.toNat_of_nonneg (by omega)];exact zaT.2 h1
    ·rw[zcU,Int.toNat_of_nonneg (by omega)];simpa using h2
   ·rintro⟨t,rfl,h1,h2⟩;rw[hls]at h1;rw[zcU]at h2;exact⟨zaT.1 h1,by rw[h2];rfl⟩) (cnt_le _)
 rw[zc0,zc0,h1,eo];cases ho:zeO l 7 (namedS l)with
 | none=>rfl
 | some o =>
   simp only[Option.map_some,List.nil_append];congr 2;refine List.filter_congr fun x hx=>?_;congr 1;have hm:=zfj l 7 (namedS l) o (cnt_le _) (named_right hr) ho x;have hxd:=hdeal x hx;rw[Bool.eq_iff_iff,zaT,zaT,hm];constructor
   ·intro h;refine⟨x.toNat,by omega,?_⟩;rw[zcU,Int.toNat_of_nonneg (by omega)];exact zaT.2 h
   ·rintro⟨t,rfl,h⟩;rw[zcU]at h;exact zaT.1 h
end Go.Proofs.YthlhgiihngcobaaGreatDoor
namespace Go.Proofs.YthlhgiihngcobaaGreatDoor
theorem zdc{d:List Op3}{i:Nat}(h:i<d.length):opAt d i=d[i]:=by unfold opAt;simp[List.getD,List.getElem?_eq_getElem h]
end Go.Proofs.YthlhgiihngcobaaGreatDoor
namespace Go.Proofs.YthlhgiihngcobaaGreatDoor
def zcp(d:List Op3)(p:zaa):zaa:=((opAt d p.1.toNat).1,(opAt d p.2.toNat).1)
def zhI:List zaa:=(List.range 36).map fun n=>(((n / 6+1:Nat):Int),((n % 6+1:Nat):Int))
def zdD(d:List Op3)(e:zaa):Bool:=(pairsL d).any fun p=>zcp d p == e
def zam(d:List Op3)(n:Nat):List zaa:=(zhI.take n).filter (zdD d)
theorem zgb(n:Nat)(h:n<36):zhI.take (n+1)=zhI.take n++[(((n / 6+1:Nat):Int),((n % 6+1:Nat):Int))]:=by
 have hl:n<zhI.length:=by simpa[zhI]using h
 rw[List.take_succ_eq_append_getElem hl];simp[zhI]
theorem zhq{d:List Op3}{i j:Nat}(hi:i<6)(hj:j<6)(h:zdD d (((i+1:Nat):Int),((j+1:Nat):Int))=true):zam d (6*i+(j+1))=zam d (6*i+j)++[(((i+1:Nat):Int),((j+1:Nat):Int))]:=by unfold zam;rw[<-Nat.add_assoc,zgb _ (by omega),show(6*i+j) / 6=i by omega,show(6*i+j) % 6=j by omega,List.filter_append];simp only[List.filter_cons,h,if_true,List.filter_nil]
theorem zgy{d:List Op3}{i j:Nat}(hi:i<6)(hj:j<6)(h:zdD d (((i+1:Nat):Int),((j+1:Nat):Int))=false):zam d (6*i+(j+1))=zam d (6*i+j):=by unfold zam;rw[<-Nat.add_assoc,zgb _ (by omega),show(6*i+j) / 6=i by omega,show(6*i+j) % 6=j by omega,List.filter_append];rw[List.filter_cons,h];simp
theorem zev(d:List Op3)(n:Nat):(zam d n).length<=36:=by
 unfold zam;have h1:=List.length_filter_le (zdD d) (zhI.take n);have h2:=List.length_take_le' n zhI;have h3:zhI.length=36:=by simp[zhI]
 omega
theorem zmc{a b:Int}(h1:1<=a)(h2:a<=6)(h3:1<=b)(h4:b<=6):(a,b)∈zhI:=by unfold zhI;refine List.mem_map.2 ⟨6*(a.toNat-1)+(b.toNat-1),List.mem_range.2 (by omega),?_⟩;refine Prod.ext ?_ ?_ <;> simp <;> omega
end Go.Proofs.YthlhgiihngcobaaGreatDoor
namespace Go.Proofs.YthlhgiihngcobaaGreatDoor
def zeE(a b t:Int):List Op3:=[(t,1,a),(t,2,b),(t,3,0)]
def piecesL(a b:Int)(ps:List Int):List Op3:=ps.flatMap (zeE a b)
structure zbe(ps:List Int):Prop where
 deal:∀x∈ps,1<=x/\x<=6
 once:ps.Nodup
theorem zbe.len{ps:List Int}(h:zbe ps):ps.length<=6:=by
 have h1:=h.once.length_le_of_subset (l₂:=[1,2,3,4,5,6]) fun x hx=>by have:=h.deal x hx;simp;omega
 simpa using h1
theorem pieces_cons(a b t:Int)(ps:List Int):piecesL a b (t::ps)=(t,1,a)::(t,2,b)::(t,3,0)::piecesL a b ps:=by simp[piecesL,zeE]
theorem zaE(a b:Int)(ps:List Int):(piecesL a b ps).length=3*ps.length:=by
 induction ps with
 | nil=>rfl
 | cons t ps ih=>rw[pieces_cons];simp[ih];omega
theorem zgH(a b t:Int)(ps:List Int):piecesL a b (ps++[t])=piecesL a b ps++[(t,1,a),(t,2,b),(t,3,0)]:=by simp[piecesL,zeE]
theorem zbg{a b:Int}{ps:List Int}{o:Op3}:o∈piecesL a b ps↔∃t∈ps,o=(t,1,a)\/o=(t,2,b)\/o=(t,3,0):=by unfold piecesL;rw[List.mem_flatMap];simp[zeE]
theorem zaw(a b:Int):∀(ps:List Int) (k:Nat),k<ps.length->opAt (piecesL a b ps) (3*k)=(ps.getD k 0,1,a)/\opAt (piecesL a b ps) (3*k+1)=(ps.getD k 0,2,b)/\opAt (piecesL a b ps) (3*k+2)=(ps.getD k 0,3,0):=by
 intro ps
 induction ps with
 | nil=>intro k hk;simp at hk
 | cons t ps ih =>
   intro k hk;rw[pieces_cons];cases k with
   | zero=>exact⟨rfl,rfl,rfl⟩
   | succ k =>obtain⟨h1,h2,h3⟩:=ih k (by simpa using hk);rw[show 3*(k+1)=3*k+3 by omega];exact⟨h1,h2,h3⟩
theorem zgJ(a b:Int):∀ps:List Int,ps.Nodup->zeF (piecesL a b ps):=by
 intro ps
 induction ps with
 | nil=>intro _;exact List.Pairwise.nil
 | cons t ps ih =>intro h;obtain⟨h1,h2⟩:=List.nodup_cons.1 h;rw[pieces_cons];unfold zeF;refine List.pairwise_cons.2 ⟨fun o _=>by simp[zax],List.pairwise_cons.2 ⟨fun o _=>by simp[zax],List.pairwise_cons.2 ⟨fun o ho=>?_,ih h2⟩⟩⟩;obtain⟨u,hu,h3⟩:=zbg.1 ho;have hut:u≠t:=fun e=>h1 (e ▸hu);rintro⟨e,_⟩;rcases h3 with rfl | rfl | rfl <;> exact hut e.symm
theorem zcr{a b:Int}(ha:1<=a/\a<=6)(hb:1<=b/\b<=6){ps:List Int}(h:zbe ps):(chk (piecesL a b ps)).2=0:=by refine(zbT _).2 ⟨by rw[zaE];have:=h.len;omega,fun o ho=>?_,zgJ a b ps h.once⟩;obtain⟨t,ht,h3⟩:=zbg.1 ho;have:=h.deal t ht;rcases h3 with rfl | rfl | rfl <;> simp[isOpB,zax] <;> omega
theorem zel{a b:Int}{ps:List Int}(h:zbe ps):doneL (piecesL a b ps)=piecesL a b ps:=by
 unfold doneL;refine List.filter_eq_self.2 fun o ho=>?_;obtain⟨t,ht,h3⟩:=zbg.1 ho;have hd:=h.deal t ht;have e:o.1=t:=by rcases h3 with rfl | rfl | rfl <;> rfl
 unfold za3;refine List.any_eq_true.2 ⟨(t,3,0),zbg.2 ⟨t,ht,.inr (.inr rfl)⟩,?_⟩;rw[e];simp;omega
theorem zep{ps d:List Int}(hn:ps.Nodup)(hd:d.Pairwise (· < ·))(h:∀x,x∈ps↔x∈d):za6 ps=d:=by have h1:(za6 ps).Nodup:=(zaD ps).nodup_iff.2 hn;rw[List.nodup_iff_pairwise_ne]at h1;exact zcZ _ _ (((zdI ps).and h1).imp fun {a b} hab=>by omega) hd fun x=>((zaD ps).mem_iff).trans (h x)
theorem za8{a b:Int}{ps:List Int}(h:zbe ps)(x:Int):x∈ps↔x∈zac (piecesL a b ps):=by
 rw[zaz,zfy];constructor
 ·intro hx;exact⟨(h.deal x hx).1,(h.deal x hx).2,(x,3,0),zbg.2 ⟨x,hx,.inr (.inr rfl)⟩,rfl⟩
 ·rintro⟨_,_,o,ho,rfl⟩;obtain⟨t,ht,h3⟩:=zbg.1 ho;rcases h3 with rfl | rfl | rfl <;> exact ht
theorem zhb{a b:Int}{ps:List Int}(h:zbe ps):za6 ps=zac (piecesL a b ps):=zep h.once (za5 _) (za8 h)
theorem zl0{a b t:Int}:∀ {ps:List Int},ps.Nodup->(t∈ps->ofL (piecesL a b ps) t=zeE a b t)/\(t ∉ ps->ofL (piecesL a b ps) t=[]):=by
 intro ps
 induction ps with
 | nil=>intro _;exact⟨fun h=>(by cases h),fun _=>rfl⟩
 | cons u ps ih =>
   intro hn;obtain⟨h1,h2⟩:=List.nodup_cons.1 hn;obtain⟨i1,i2⟩:=ih h2;unfold ofL at i1 i2 ⊢;rw[pieces_cons];by_cases e:u=t
   ·subst e;refine⟨fun _=>?_,fun h=>absurd (List.mem_cons_self ..) h⟩;simp[i2 h1,zeE]
   ·refine⟨fun h=>?_,fun h=>?_⟩
    ·rcases List.mem_cons.1 h with h | h
     ·exact absurd h.symm e
     ·simp[e,i1 h]
    ·simp[e,i2 fun h3=>h (List.mem_cons_of_mem _ h3)]
theorem zdA{a b:Int}{ps:List Int}(h:ps.Nodup):∀qs:List Int,(∀x∈qs,x∈ps)->alongL (piecesL a b ps) qs=piecesL a b qs:=by
 intro qs
 induction qs with
 | nil=>intro _;rfl
 | cons q qs ih =>intro hq;have h1:=ih fun x hx=>hq x (List.mem_cons_of_mem _ hx);have h2:=(zl0 (a:=a) (b:=b) h).1 (hq q (List.mem_cons_self ..));show ofL (piecesL a b ps) q++alongL (piecesL a b ps) qs=zeE a b q++piecesL a b qs;rw[h1,h2]
theorem zdz{a b:Int}{ps:List Int}(h:zbe ps)(e:zaa):e∈zam (piecesL a b ps) 36↔∃p q:Nat,p<q/\q<ps.length/\e=(ps.getD p 0,ps.getD q 0):=by
 unfold zam;rw[List.take_of_length_le (by simp[zhI]),List.mem_filter];simp only[zdD,List.any_eq_true,beq_iff_eq];have hg:∀k,k<ps.length->ps.getD k 0∈ps:=fun k hk=>by simp[List.getD,List.getElem?_eq_getElem hk]
 constructor
 ·rintro⟨_,p,hp,rfl⟩;obtain⟨i,j,hij,hj,ho,rfl⟩:=zaQ.1 hp;rw[zaE]at hj
  have ei:∀i,i<3*ps.length->(opAt (piecesL a b ps) i).1=ps.getD (i / 3) 0:=fun i hi=>by
   obtain⟨p0,p1,p2⟩:=zaw a b ps (i / 3) (by omega);rcases(show i=3*(i / 3)\/i=3*(i / 3)+1\/i=3*(i / 3)+2 by omega)with e | e | e
   ·rw[e,p0,show 3*(i / 3) / 3=i / 3 by omega]
   ·rw[e,p1,show(3*(i / 3)+1) / 3=i / 3 by omega]
   ·rw[e,p2,show(3*(i / 3)+2) / 3=i / 3 by omega]
  have hne:(opAt (piecesL a b ps) i).1≠(opAt (piecesL a b ps) j).1:=by unfold zeG at ho;simp at ho;exact ho.1
  rw[ei i (by omega),ei j hj]at hne;refine⟨i / 3,j / 3,?_,by omega,?_⟩
  ·have:i / 3≠j / 3:=fun e=>hne (by rw[e]);omega
  ·unfold zcp;simp only[Int.toNat_natCast];rw[ei i (by omega),ei j hj]
 ·rintro⟨p,q,hpq,hq,rfl⟩;have d1:=h.deal _ (hg p (by omega));have d2:=h.deal _ (hg q hq);refine⟨zmc d1.1 d1.2 d2.1 d2.2,((3*p+1:Nat),(3*q+1:Nat)),zaQ.2 ⟨3*p+1,3*q+1,by omega,by rw[zaE];omega,?_,rfl⟩,?_⟩
  ·rw[(zaw a b ps p (by omega)).2.1,(zaw a b ps q hq).2.1];have:ps.getD p 0≠ps.getD q 0:=fun e=>by have:=zhy h.once (i:=p) (j:=q) (x:=ps.getD p 0) (by simp[List.getD,List.getElem?_eq_getElem (show p<ps.length by omega)]) (by rw[e];simp[List.getD,List.getElem?_eq_getElem hq]);omega
   unfold zeG;rw[bne_iff_ne.2 this];simp
  ·unfold zcp;simp only[Int.toNat_natCast];rw[(zaw a b ps p (by omega)).2.1,(zaw a b ps q hq).2.1]
theorem zbW(d:List Op3)(n:Nat):zeN (zam d n):=fun e he=>by have h1:=(List.mem_filter.1 he).1;have h2:=List.mem_of_mem_take h1;unfold zhI at h2;obtain⟨k,hk,rfl⟩:=List.mem_map.1 h2;have:=List.mem_range.1 hk;simp only;omega
theorem ziq(d:List Op3)(n:Nat):gchk (zam d n)=0:=by have h1:=zev d n;unfold gchk;rw[if_neg (by omega),if_neg];intro h;obtain⟨e,he,h2⟩:=List.any_eq_true.1 h;have:=zbW d n e he;simp[zcd,zeI,this]at h2
theorem zl2{l:List zaa}{ps:List Int}(h:zbe ps)(hl:∀e,e∈l↔∃p q:Nat,p<q/\q<ps.length/\e=(ps.getD p 0,ps.getD q 0)):∀(qs pre:List Int) (s:zaK) (n:Nat),ps=pre++qs->(∀t:Nat,s t=true↔(t:Int)∈qs)->zcs s<=n->zeO l n s=some qs:=by
 intro qs
 induction qs with
 | nil =>
   intro pre s n _ hs _;refine ordF_end ?_ n;cases ha:zb4 s with
   | false=>rfl
   | true =>obtain⟨k,_,hk⟩:=List.any_eq_true.1 ha;exact absurd ((hs k).1 hk) (by simp)
 | cons q qs ih =>
   intro pre s n hp hs hn;have hq:=h.deal q (by rw[hp];simp);obtain⟨t,rfl⟩:∃t:Nat,q=(t:Int):=⟨q.toNat,by omega⟩;have hst:s t=true:=(hs t).2 (List.mem_cons_self ..);have hnd:=h.once;rw[hp]at hnd;have hnq:=(List.nodup_append.1 hnd).2.1;have hpq:ps.getD pre.length 0=(t:Int):=by rw[hp];simp[List.getD]
   have hedge:∀y∈qs,((t:Int),y)∈l:=fun y hy=>by obtain⟨i,hi,rfl⟩:=List.getElem_of_mem hy;refine(hl _).2 ⟨pre.length,pre.length+1+i,by omega,by rw[hp];simp;omega,?_⟩;rw[hpq,hp];simp[List.getD,Nat.add_assoc,Nat.add_comm 1 i,hi]
   have hfree:zau l s t=true:=by
    unfold zau;rw[hst,Bool.true_and,Bool.not_eq_true'];refine List.any_eq_false.2 fun e he=>?_;obtain⟨p,r,hpr,hr,rfl⟩:=(hl e).1 he;intro hh;simp only[holdB,Bool.and_eq_true,beq_iff_eq]at hh;have e1:r=pre.length:=zhy h.once (x:=(t:Int)) (by rw[<-hh.1];simp[List.getD,List.getElem?_eq_getElem hr]) (by rw[hp];simp);have e2:ps.getD p 0∈pre:=by rw[hp];simp[List.getD,List.getElem?_append_left (show p<pre.length by omega),List.getElem?_eq_getElem (show p<pre.length by omega)]
    have hd:=h.deal (ps.getD p 0) (by have h5:ps.getD p 0∈pre++(t:Int)::qs:=List.mem_append_left _ e2;rw[<-hp]at h5;exact h5);have e3:=(hs _).1 hh.2;rw[Int.toNat_of_nonneg (by omega)]at e3;exact(List.nodup_append.1 hnd).2.2 _ e2 _ e3 rfl
   have hnx:nextN l s=t:=by
    refine zc5 (by omega) (by omega) hfree fun j hj1 hj=>?_;cases hf:zau l s j with
    | false=>rfl
    | true =>
      obtain⟨h1,h2⟩:=zbi hf;rcases List.mem_cons.1 ((hs j).1 h1)with e | e
      ·omega
      ·rw[h2 t (hedge _ e)]at hst;cases hst
   have h0:nextN l s≠0:=by omega
   have hc:=zbN h0;rw[zbR hn (zhH (by omega) hst) h0,hnx,ih (pre++[(t:Int)]) (zcL s t false) (n-1) (by rw[hp];simp) (fun k=>?_) (by rw[hnx]at hc;omega)]
   ·rfl
   ·by_cases e:k=t
    ·subst e;rw[zaI];exact⟨fun h=>(by cases h),fun h=>absurd h (List.nodup_cons.1 hnq).1⟩
    ·rw[zap s false e,hs k,List.mem_cons];exact⟨fun h=>h.resolve_left (by omega),.inr⟩
theorem zf4{a b:Int}{ps:List Int}(h:zbe ps):zim (zac (piecesL a b ps)) (zam (piecesL a b ps) 36)=some ps:=by
 unfold zim;rw[zc0,zl2 h (zdz h) ps [] _ 7 rfl (fun t=>?_) (cnt_le _)]
 ·rfl
 ·unfold zfH;rw[zfn.2 (by simp:(t:Int) ∉ ([]:List Int)),Bool.not_false,Bool.and_true,zaT];exact(za8 h t).symm
end Go.Proofs.YthlhgiihngcobaaGreatDoor
