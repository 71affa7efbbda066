/-
  PROVED HERE: plain facts, with no word of the program; plain facts, with no word of the program; plain facts on lists, with no word of the program; plain facts, with no word of the program.
  Conditions: none but those that each theorem's own premises say.
-/
import Derived.Test.YthlhgiihngcobaaGreatDoorMgah
import Derived.Test.YthlhgiihngcobaaGreatDoorMgaf
set_option maxHeartbeats 32000000
set_option maxRecDepth 100000
namespace Go.Proofs.YthlhgiihngcobaaGreatDoor
def weaveL:List Int->List Int->List Int
 | [],fr=>fr
 | b::bs,fr=>fr.takeWhile (fun x=>decide (x<b))++b::weaveL bs (fr.dropWhile fun x=>decide (x<b))
theorem weave_nil(b:List Int):weaveL b []=b:=by
 induction b with
 | nil=>rfl
 | cons a r ih=>simp[weaveL,ih]
theorem zjM{b f:Int}{bs fr:List Int}(h:f<b):weaveL (b::bs) (f::fr)=f::weaveL (b::bs) fr:=by simp[weaveL,h]
theorem zgq{b f:Int}{bs fr:List Int}(h:¬f<b):weaveL (b::bs) (f::fr)=b::weaveL bs (f::fr):=by simp[weaveL,h]
theorem zk8(b:List Int):∀fr,(weaveL b fr).length=b.length+fr.length:=by
 induction b with
 | nil=>intro fr;simp[weaveL]
 | cons a r ih =>intro fr;have h1:=List.takeWhile_append_dropWhile (p:=fun x=>decide (x<a)) (l:=fr);have h2:=congrArg List.length h1;rw[List.length_append]at h2;simp only[weaveL,List.length_append,List.length_cons,ih];omega
def zjQ(l:List zab):Nat->zbi->Option (List Int)
 | 0,_=>some []
 | n+1,s=>if zdZ s=true then(if nextN l s=0 then none else(zjQ l n (zdq s (nextN l s) false)).map ((nextN l s:Int) :: ·))else some []
theorem ziN(l:List zab):∀(n:Nat) (s:zbi) (out:List Int),orderGo l n s out=(zjQ l n s).map (out ++ ·):=by
 intro n
 induction n with
 | zero=>intro s out;simp[orderGo,zjQ]
 | succ n ih =>
   intro s out;simp only[orderGo,zjQ];split
   ·split
    ·rfl
    ·rw[ih,Option.map_map];congr 1
     funext x
     simp
   ·simp
theorem ordF_end{l:List zab}{s:zbi}(h:zdZ s=false):∀n,zjQ l n s=some []:=by
 intro n;cases n with
 | zero=>rfl
 | succ n=>simp[zjQ,h]
theorem zyd{s:zbi}{t:Nat}(ht:t<7)(h:s t=true):zdZ s=true:=List.any_eq_true.2 ⟨t,List.mem_range.2 ht,h⟩
theorem zfP{s:zbi}(h:zdZ s=false){t:Nat}(ht:t<7):s t=false:=by have:=List.any_eq_false.1 h t (List.mem_range.2 ht);simpa using this
theorem cnt_zero{s:zbi}(h:zcS s=0):zdZ s=false:=by
 cases h2:zdZ s with
 | false=>rfl
 | true=>have:=zgw h2;omega
theorem zec{l:List zab}{n:Nat}{s:zbi}(hn:zcS s<=n)(h:zdZ s=true)(h0:nextN l s≠0):zjQ l n s=(zjQ l (n-1) (zdq s (nextN l s) false)).map ((nextN l s:Int) :: ·):=by
 have:=zgw h
 match n,hn with
 | 0,hn=>omega
 | n+1,_=>simp[zjQ,h,h0]
theorem zd1{l:List zab}{n:Nat}{s:zbi}(hn:zcS s<=n)(h:zdZ s=true)(h0:nextN l s=0):zjQ l n s=none:=by
 have:=zgw h
 match n,hn with
 | 0,hn=>omega
 | n+1,_=>simp[zjQ,h,h0]
theorem zga{l:List zab}{s:zbi}(h0:nextN l s≠0):1<=nextN l s/\nextN l s<=6/\za7 l s (nextN l s)=true/\∀j,1<=j->j<nextN l s->za7 l s j=false:=by
 rcases next_cases l s with⟨h,_⟩ | h
 ·exact absurd h h0
 ·exact h
theorem znV{l:List zab}{s:zbi}(h0:nextN l s=0):∀j,1<=j->j<7->za7 l s j=false:=by
 rcases next_cases l s with⟨_,h⟩ | ⟨h,_⟩
 ·exact h
 ·omega
theorem zeF{l:List zab}{s:zbi}(h0:nextN l s≠0):zcS (zdq s (nextN l s) false)+1=zcS s:=by obtain⟨_,h6,hf,_⟩:=zga h0;exact zkC (by omega) (zdc hf).1
theorem zs9(l:List zab):∀(n m:Nat) (s:zbi),zcS s<=n->zcS s<=m->zjQ l n s=zjQ l m s:=by
 intro n
 induction n with
 | zero =>intro m s hn _;rw[ordF_end (cnt_zero (by omega)),ordF_end (cnt_zero (by omega))]
 | succ n ih =>
   intro m s hn hm;cases h:zdZ s with
   | false=>rw[ordF_end h,ordF_end h]
   | true =>
     by_cases h0:nextN l s=0
     ·rw[zd1 hn h h0,zd1 hm h h0]
     ·have hc:=zeF h0;rw[zec hn h h0,zec hm h h0,Nat.add_sub_cancel,ih (m-1) _ (by omega) (by omega)]
theorem ordF_head{l:List zab}{n:Nat}{s:zbi}{o:List Int}(hn:zcS s<=n)(h:zjQ l n s=some o):(o=[]/\zdZ s=false)\/∃r,o=(nextN l s:Int)::r/\nextN l s≠0:=by
 cases ha:zdZ s with
 | false=>rw[ordF_end ha]at h;exact .inl ⟨(Option.some.inj h).symm,rfl⟩
 | true =>
   by_cases h0:nextN l s=0
   ·rw[zd1 hn ha h0]at h;cases h
   ·rw[zec hn ha h0]at h;obtain⟨r,_,e⟩:=Option.map_eq_some_iff.1 h;exact .inr ⟨r,e.symm,h0⟩
theorem zks(l:List zab):∀(n:Nat) (s:zbi) (o:List Int),zcS s<=n->(∀k,s k=true->1<=k/\k<=6)->zjQ l n s=some o->∀x,x∈o↔∃t:Nat,x=(t:Int)/\s t=true:=by
 intro n
 induction n with
 | zero =>intro s o hn hs h x;have ha:=cnt_zero (s:=s) (by omega);rw[ordF_end ha]at h;rw[<-Option.some.inj h];refine⟨fun hx=>(by cases hx),?_⟩;rintro⟨t,_,ht⟩;rw[zfP ha (by have:=hs t ht;omega)]at ht;cases ht
 | succ n ih =>
   intro s o hn hs h x;cases ha:zdZ s with
   | false =>rw[ordF_end ha]at h;rw[<-Option.some.inj h];refine⟨fun hx=>(by cases hx),?_⟩;rintro⟨t,_,ht⟩;rw[zfP ha (by have:=hs t ht;omega)]at ht;cases ht
   | true =>
     by_cases h0:nextN l s=0
     ·rw[zd1 hn ha h0]at h;cases h
     ·rw[zec hn ha h0]at h;obtain⟨r,hr,e⟩:=Option.map_eq_some_iff.1 h;obtain⟨_,h6,hf,_⟩:=zga h0;have hc:=zeF h0
      have:=ih _ r (by omega) (fun k hk=>by
       by_cases e2:k=nextN l s
       ·rw[e2,zbc]at hk;cases hk
       ·rw[zaE s false e2]at hk;exact hs k hk) hr x
      rw[<-e,List.mem_cons,this];constructor
      ·rintro(rfl | ⟨t,rfl,ht⟩)
       ·exact⟨_,rfl,(zdc hf).1⟩
       ·refine⟨t,rfl,?_⟩;by_cases e2:t=nextN l s
        ·rw[e2,zbc]at ht;cases ht
        ·rw[zaE s false e2]at ht;exact ht
      ·rintro⟨t,rfl,ht⟩;by_cases e2:t=nextN l s
       ·exact .inl (by rw[e2])
       ·exact .inr ⟨t,rfl,by rw[zaE s false e2];exact ht⟩
def onlyS(l:List zab)(s:zbi):zbi:=fun t=>s t && namedS l t
theorem zpT(l:List zab)(s:zbi):zcS (onlyS l s)<=zcS s:=by
 have h:∀t,(onlyS l s t).toNat<=(s t).toNat:=fun t=>by unfold onlyS;cases s t <;> cases namedS l t <;> simp
 unfold zcS;have:=h 0;have:=h 1;have:=h 2;have:=h 3;have:=h 4;have:=h 5;have:=h 6;omega
theorem ziF{l:List zab}(hr:zg8 l)(s:zbi)(t:Nat)(ht:namedS l t=true):za7 l s t=za7 l (onlyS l s) t:=by
 unfold za7;have e1:onlyS l s t=s t:=by unfold onlyS;rw[ht,Bool.and_true]
 rw[e1];congr 2;refine zwr fun e he=>?_;obtain⟨x,y,rfl,hx,hy⟩:=hr.nat he;have e2:onlyS l s x=s x:=by unfold onlyS;rw[named_from he,Bool.and_true]
 unfold zfU;simp only[Int.toNat_natCast,e2]
theorem zgJ{l:List zab}(hr:zg8 l)(s:zbi)(t:Nat)(ht:namedS l t=false):za7 l s t=s t:=by
 unfold za7
 have e1:l.any (zfU s t)=false:=by
  refine List.any_eq_false.2 fun e he=>?_;obtain⟨x,y,rfl,hx,hy⟩:=hr.nat he;have:y≠t:=fun e=>by rw[<-e,named_to he]at ht;cases ht
  simp[zfU];intro h;omega
 rw[e1];simp
theorem zi2{l:List zab}(s:zbi)(t:Nat)(ht:namedS l t=false):za7 l (onlyS l s) t=false:=by unfold za7 onlyS;rw[ht];simp
theorem ztO{l:List zab}(hr:zg8 l):∀(n:Nat) (s:zbi) (fr:List Int) (m:Nat),zcS s<=n->(∀k,s k=true->1<=k/\k<=6)->fr.Pairwise (· < ·) ->
  (∀x,x∈fr↔∃t:Nat,x=(t:Int)/\s t=true/\namedS l t=false)->zcS (onlyS l s)<=m->zjQ l n s=(zjQ l m (onlyS l s)).map fun b=>weaveL b fr:=by
 intro n
 induction n with
 | zero =>
   intro s fr m hn hs hf hm hc;have ha:=cnt_zero (s:=s) (by omega);have hfr:fr=[]:=List.eq_nil_iff_forall_not_mem.2 fun x hx=>by obtain⟨t,_,ht,_⟩:=(hm x).1 hx;rw[zfP ha (by have:=hs t ht;omega)]at ht;cases ht
   have hao:zdZ (onlyS l s)=false:=cnt_zero (by have:=zpT l s;omega);rw[ordF_end ha,ordF_end hao,hfr];rfl
 | succ n ih =>
   intro s fr m hn hs hf hm hc;cases ha:zdZ s with
   | false =>
     have hfr:fr=[]:=List.eq_nil_iff_forall_not_mem.2 fun x hx=>by obtain⟨t,_,ht,_⟩:=(hm x).1 hx;rw[zfP ha (by have:=hs t ht;omega)]at ht;cases ht
     have hao:zdZ (onlyS l s)=false:=cnt_zero (by have:=zpT l s;have:=zzy ha;omega);rw[ordF_end ha,ordF_end hao,hfr];rfl
   | true =>
     have hso:∀k,onlyS l s k=true->1<=k/\k<=6:=fun k hk=>hs k (by unfold onlyS at hk;simp at hk;exact hk.1);cases fr with
     | nil =>
       have e:onlyS l s=s:=by
        funext t
        unfold onlyS;cases h1:s t with
        | false=>rfl
        | true =>
          cases h2:namedS l t with
          | true=>rfl
          | false=>exact absurd ((hm t).2 ⟨t,rfl,h1,h2⟩) (by simp)
       rw[e]at hc ⊢;rw[zs9 l (n+1) m s hn hc];have:(fun b=>weaveL b [])=(id:List Int->List Int):=funext weave_nil;rw[this,Option.map_id];rfl
     | cons f fr =>
       obtain⟨t,rfl,hst,hnt⟩:=(hm f).1 (List.mem_cons_self ..);have ht:=hs t hst;obtain⟨f1,f2⟩:=List.pairwise_cons.1 hf
       have hleast:∀j:Nat,j<t->s j=true->namedS l j=true:=fun j hj h1=>by
        cases h2:namedS l j with
        | true=>rfl
        | false =>
          rcases List.mem_cons.1 ((hm j).2 ⟨j,rfl,h1,h2⟩)with h3 | h3
          ·omega
          ·have:=f1 _ h3;omega
       by_cases hb:nextN l (onlyS l s)=0\/t<nextN l (onlyS l s)
       ·have hnx:nextN l s=t:=by
         refine zhq ht.1 ht.2 (by rw[zgJ hr s t hnt];exact hst) fun j hj1 hj=>?_;cases h2:namedS l j with
         | false =>
           rw[zgJ hr s j h2];cases h1:s j with
           | false=>rfl
           | true=>rw[hleast j hj h1]at h2;cases h2
         | true =>
           rw[ziF hr s j h2];rcases hb with hb | hb
           ·exact znV hb j hj1 (by omega)
           ·exact(zga (by omega)).2.2.2 j hj1 (by omega)
        have h0:nextN l s≠0:=by omega
        have hcn:=zeF h0
        have eo:onlyS l (zdq s t false)=onlyS l s:=by
         funext k
         unfold onlyS;by_cases e:k=t
         ·rw[e,hnt];simp
         ·rw[zaE s false e]
        have h1:=ih (zdq s t false) fr m (by rw[hnx]at hcn;omega) (fun k hk=>by
         by_cases e:k=t
         ·rw[e,zbc]at hk;cases hk
         ·rw[zaE s false e]at hk;exact hs k hk) f2 (fun x=>by
          constructor
          ·intro hx;obtain⟨k,rfl,hk1,hk2⟩:=(hm x).1 (List.mem_cons_of_mem _ hx);have:=f1 _ hx;exact⟨k,rfl,by rw[zaE s false (by omega)];exact hk1,hk2⟩
          ·rintro⟨k,rfl,hk1,hk2⟩;by_cases e:k=t
           ·rw[e,zbc]at hk1;cases hk1
           ·rw[zaE s false e]at hk1;rcases List.mem_cons.1 ((hm k).2 ⟨k,rfl,hk1,hk2⟩)with h3 | h3
            ·omega
            ·exact h3) (by rw[eo];exact hc)
        rw[zec hn ha h0,hnx,Nat.add_sub_cancel,h1,eo,Option.map_map];cases ho:zjQ l m (onlyS l s)with
        | none=>rfl
        | some o =>
          simp only[Option.map_some,Function.comp];congr 1;rcases ordF_head hc ho with⟨rfl,_⟩ | ⟨r,rfl,h3⟩
          ·rfl
          ·rcases hb with hb | hb
           ·exact absurd hb h3
           ·rw[zjM (by omega)]
       ·have hb0:nextN l (onlyS l s)≠0:=fun h=>hb (.inl h);obtain⟨b1,b6,bf,bl⟩:=zga hb0
        have bn:namedS l (nextN l (onlyS l s))=true:=by
         cases h2:namedS l (nextN l (onlyS l s))with
         | true=>rfl
         | false=>rw[zi2 s _ h2]at bf;cases bf
        have hbt:nextN l (onlyS l s)≠t:=fun e=>by rw[e,hnt]at bn;cases bn
        have hlt:nextN l (onlyS l s)<t:=by
         rcases Nat.lt_trichotomy t (nextN l (onlyS l s))with h | h | h
         ·exact absurd (Or.inr h) hb
         ·exact absurd h.symm hbt
         ·exact h
        have hnx:nextN l s=nextN l (onlyS l s):=by
         refine zhq b1 b6 (by rw[ziF hr s _ bn];exact bf) fun j hj1 hj=>?_;cases h2:namedS l j with
         | false =>
           rw[zgJ hr s j h2];cases h1:s j with
           | false=>rfl
           | true=>rw[hleast j (by omega) h1]at h2;cases h2
         | true=>rw[ziF hr s j h2];exact bl j hj1 hj
        obtain⟨b,hbe⟩:∃b,nextN l (onlyS l s)=b:=⟨_,rfl⟩;rw[hbe]at hnx hlt bn bf b1 b6 hbt;have h0:nextN l s≠0:=by omega
        have hcn:=zeF h0;have hco:=zeF hb0;have hao:zdZ (onlyS l s)=true:=zyd (by omega) (zdc bf).1
        have eo:onlyS l (zdq s b false)=zdq (onlyS l s) b false:=by
         funext k
         unfold onlyS zdq;by_cases e:k=b
         ·simp[e]
         ·simp[e]
        have h1:=ih (zdq s b false) (t::fr) (m-1) (by rw[hnx]at hcn;omega) (fun k hk=>by
         by_cases e:k=b
         ·rw[e,zbc]at hk;cases hk
         ·rw[zaE s false e]at hk;exact hs k hk) hf (fun x=>by
          rw[hm x];constructor
          ·rintro⟨k,rfl,hk1,hk2⟩;have:k≠b:=fun e=>by rw[e,bn]at hk2;cases hk2
           exact⟨k,rfl,by rw[zaE s false this];exact hk1,hk2⟩
          ·rintro⟨k,rfl,hk1,hk2⟩;have:k≠b:=fun e=>by rw[e,bn]at hk2;cases hk2
           rw[zaE s false this]at hk1;exact⟨k,rfl,hk1,hk2⟩) (by rw[eo];rw[hbe]at hco;omega)
        rw[zec hn ha h0,hnx,Nat.add_sub_cancel,h1,eo,zec hc hao hb0,hbe,Option.map_map,Option.map_map];congr 1
        funext o
        simp only[Function.comp];rw[zgq (by omega)]
def zwu(d:List Int)(l:List zab):Option (List Int):=orderGo l 7 (zlH d []) []
theorem zm7{d:List Int}{l:List zab}(hr:zg8 l)(hd:d.Pairwise (· < ·))(hdeal:∀x∈d,1<=x/\x<=6)(hin:∀x∈namedI l,x∈d):zwu d l=(zcN l).map fun b=>weaveL b (d.filter fun x=>!inB b x):=by
 unfold zwu zcN;have hls:∀t:Nat,zlH d [] t=inB d (t:Int):=fun t=>by unfold zlH;rw[ziG.2 (by simp:(t:Int) ∉ ([]:List Int))];simp
 have eo:onlyS l (zlH d [])=namedS l:=by
  funext t
  unfold onlyS;rw[hls];cases h:namedS l t with
  | false=>simp
  | true =>rw[zf8]at h;rw[zaZ.2 (hin _ (zaZ.1 h))];rfl
 have h1:=ztO hr 7 (zlH d []) (d.filter fun x=>!inB (namedI l) x) 7 (cnt_le _) (fun k hk=>by
  rw[hls,zaZ]at hk;have:=hdeal _ hk
  omega) (hd.sublist List.filter_sublist) (fun x=>by
   rw[List.mem_filter];constructor
   ·rintro⟨h1,h2⟩;have:=hdeal x h1;refine⟨x.toNat,by omega,?_,?_⟩
    ·rw[hls,Int.toNat_of_nonneg (by omega)];exact zaZ.2 h1
    ·rw[zf8,Int.toNat_of_nonneg (by omega)];simpa using h2
   ·rintro⟨t,rfl,h1,h2⟩;rw[hls]at h1;rw[zf8]at h2;exact⟨zaZ.1 h1,by rw[h2];rfl⟩) (cnt_le _)
 rw[ziN,ziN,h1,eo];cases ho:zjQ l 7 (namedS l)with
 | none=>rfl
 | some o =>
   simp only[Option.map_some,List.nil_append];congr 2;refine List.filter_congr fun x hx=>?_;congr 1;have hm:=zks l 7 (namedS l) o (cnt_le _) (named_right hr) ho x;have hxd:=hdeal x hx;rw[Bool.eq_iff_iff,zaZ,zaZ,hm];constructor
   ·intro h;refine⟨x.toNat,by omega,?_⟩;rw[zf8,Int.toNat_of_nonneg (by omega)];exact zaZ.2 h
   ·rintro⟨t,rfl,h⟩;rw[zf8]at h;exact zaZ.1 h
end Go.Proofs.YthlhgiihngcobaaGreatDoor
namespace Go.Proofs.YthlhgiihngcobaaGreatDoor
theorem zc1{d:List Op3}{i:Nat}(h:i<d.length):opAt d i=d[i]:=by unfold opAt;simp[List.getD,List.getElem?_eq_getElem h]
end Go.Proofs.YthlhgiihngcobaaGreatDoor
namespace Go.Proofs.YthlhgiihngcobaaGreatDoor
def ltB(a x:zab):Bool:=decide (a.1<x.1) || (a.1 == x.1 && decide (a.2<x.2))
theorem zkI{a x:zab}:ltB a x=true↔(a.1<x.1\/a.1=x.1/\a.2<x.2):=by simp[ltB]
def zmY(l:List zab):Prop:=l.Pairwise fun a b=>ltB a b=true
def zvS:List zab->zab->List zab
 | [],x=>[x]
 | a::r,x=>if ltB a x=true then a::zvS r x else if a=x then a::r else x::a::r
theorem addE_mem(l:List zab)(x y:zab):y∈zvS l x↔y=x\/y∈l:=by
 induction l with
 | nil=>simp[zvS]
 | cons a r ih =>
   simp only[zvS];split
   ·simp only[List.mem_cons,ih];constructor
    ·rintro(h | h | h)
     ·exact .inr (.inl h)
     ·exact .inl h
     ·exact .inr (.inr h)
    ·rintro(h | h | h)
     ·exact .inr (.inl h)
     ·exact .inl h
     ·exact .inr (.inr h)
   ·split
    ·rename_i h;subst h;simp only[List.mem_cons];constructor
     ·rintro(h | h)
      ·exact .inl h
      ·exact .inr (.inr h)
     ·rintro(h | h | h)
      ·exact .inl h
      ·exact .inl h
      ·exact .inr h
    ·simp
theorem zvX(l:List zab)(x:zab)(h:zmY l):zmY (zvS l x):=by
 induction l with
 | nil=>simp[zvS,zmY]
 | cons a r ih =>
   obtain⟨h1,h2⟩:=List.pairwise_cons.1 h;simp only[zvS];split
   ·rename_i hx;refine List.pairwise_cons.2 ⟨fun y hy=>?_,ih h2⟩;rcases(addE_mem r x y).1 hy with rfl | hy
    ·exact hx
    ·exact h1 y hy
   ·split
    ·exact h
    ·rename_i h3 h4;refine List.pairwise_cons.2 ⟨fun y hy=>?_,h⟩;have hxa:ltB x a=true:=by rw[zkI];have h5:¬(a.1<x.1\/a.1=x.1/\a.2<x.2):=fun hh=>h3 (zkI.2 hh);have h6:¬(a.1=x.1/\a.2=x.2):=fun hh=>h4 (Prod.ext hh.1 hh.2);omega
     rcases List.mem_cons.1 hy with rfl | hy
     ·exact hxa
     ·have h7:=h1 y hy;rw[zkI]at hxa h7 ⊢;omega
theorem zsX:∀(l m:List zab),zmY l->zmY m->(∀e,e∈l↔e∈m)->l=m:=by
 intro l
 induction l with
 | nil =>
   intro m _ _ h;cases m with
   | nil=>rfl
   | cons b s=>exact absurd ((h b).2 (List.mem_cons_self ..)) (by simp)
 | cons a r ih =>
   intro m hl hm h;cases m with
   | nil=>exact absurd ((h a).1 (List.mem_cons_self ..)) (by simp)
   | cons b s =>
     obtain⟨l1,l2⟩:=List.pairwise_cons.1 hl;obtain⟨m1,m2⟩:=List.pairwise_cons.1 hm;have irr:∀e:zab,ltB e e=false:=fun e=>by simp[ltB]
     have hab:a=b:=by
      rcases List.mem_cons.1 ((h a).1 (List.mem_cons_self ..))with e | ha
      ·exact e
      ·rcases List.mem_cons.1 ((h b).2 (List.mem_cons_self ..))with e | hb
       ·exact e.symm
       ·have k1:=m1 a ha;have k2:=l1 b hb;rw[zkI]at k1 k2;omega
     subst hab;congr 1;refine ih s l2 m2 fun e=>⟨fun he=>?_,fun he=>?_⟩
     ·rcases List.mem_cons.1 ((h e).1 (List.mem_cons_of_mem _ he))with rfl | h3
      ·have:=l1 e he;rw[irr]at this;cases this
      ·exact h3
     ·rcases List.mem_cons.1 ((h e).2 (List.mem_cons_of_mem _ he))with rfl | h3
      ·have:=m1 e he;rw[irr]at this;cases this
      ·exact h3
def zfF(d:List Op3)(p:zab):zab:=((opAt d p.1.toNat).1,(opAt d p.2.toNat).1)
def zn0:List zab:=(List.range 36).map fun n=>(((n / 6+1:Nat):Int),((n % 6+1:Nat):Int))
theorem zmB:zmY zn0:=by unfold zmY;decide
def ziC(d:List Op3)(e:zab):Bool:=(pairsL d).any fun p=>zfF d p == e
def zaG(d:List Op3)(n:Nat):List zab:=(zn0.take n).filter (ziC d)
theorem zk4(n:Nat)(h:n<36):zn0.take (n+1)=zn0.take n++[(((n / 6+1:Nat):Int),((n % 6+1:Nat):Int))]:=by
 have hl:n<zn0.length:=by simpa[zn0]using h
 rw[List.take_succ_eq_append_getElem hl];simp[zn0]
theorem znQ{d:List Op3}{i j:Nat}(hi:i<6)(hj:j<6)(h:ziC d (((i+1:Nat):Int),((j+1:Nat):Int))=true):zaG d (6*i+(j+1))=zaG d (6*i+j)++[(((i+1:Nat):Int),((j+1:Nat):Int))]:=by unfold zaG;rw[<-Nat.add_assoc,zk4 _ (by omega),show(6*i+j) / 6=i by omega,show(6*i+j) % 6=j by omega,List.filter_append];simp only[List.filter_cons,h,if_true,List.filter_nil]
theorem zmr{d:List Op3}{i j:Nat}(hi:i<6)(hj:j<6)(h:ziC d (((i+1:Nat):Int),((j+1:Nat):Int))=false):zaG d (6*i+(j+1))=zaG d (6*i+j):=by unfold zaG;rw[<-Nat.add_assoc,zk4 _ (by omega),show(6*i+j) / 6=i by omega,show(6*i+j) % 6=j by omega,List.filter_append];rw[List.filter_cons,h];simp
theorem ziq(d:List Op3)(n:Nat):(zaG d n).length<=36:=by
 unfold zaG;have h1:=List.length_filter_le (ziC d) (zn0.take n);have h2:=List.length_take_le' n zn0;have h3:zn0.length=36:=by simp[zn0]
 omega
theorem zpb{a b:Int}(h1:1<=a)(h2:a<=6)(h3:1<=b)(h4:b<=6):(a,b)∈zn0:=by unfold zn0;refine List.mem_map.2 ⟨6*(a.toNat-1)+(b.toNat-1),List.mem_range.2 (by omega),?_⟩;refine Prod.ext ?_ ?_ <;> simp <;> omega
end Go.Proofs.YthlhgiihngcobaaGreatDoor
namespace Go.Proofs.YthlhgiihngcobaaGreatDoor
theorem znc{ps d:List Int}(hn:ps.Nodup)(hd:d.Pairwise (· < ·))(h:∀x,x∈ps↔x∈d):sortI ps=d:=by have h1:(sortI ps).Nodup:=(zay ps).nodup_iff.2 hn;rw[List.nodup_iff_pairwise_ne]at h1;exact zex _ _ (((zc4 ps).and h1).imp fun {a b} hab=>by omega) hd fun x=>((zay ps).mem_iff).trans (h x)
theorem ze7(d:List Op3)(n:Nat):zg8 (zaG d n):=fun e he=>by have h1:=(List.mem_filter.1 he).1;have h2:=List.mem_of_mem_take h1;unfold zn0 at h2;obtain⟨k,hk,rfl⟩:=List.mem_map.1 h2;have:=List.mem_range.1 hk;simp only;omega
theorem zqB(d:List Op3)(n:Nat):gchk (zaG d n)=0:=by have h1:=ziq d n;unfold gchk;rw[if_neg (by omega),if_neg];intro h;obtain⟨e,he,h2⟩:=List.any_eq_true.1 h;have:=ze7 d n e he;simp[zdK,zew,this]at h2
end Go.Proofs.YthlhgiihngcobaaGreatDoor
