/-
  PROVED HERE: plain facts, with no word of the program; plain facts, with no word of the program.
  Conditions: none but those that each theorem's own premises say.
-/
import Derived.Test.YthlhgiihngcobaaGreatDoorMgan
import Derived.Test.YthlhgiihngcobaaGreatDoorMgak
import Derived.Test.YthlhgiihngcobaaGreatDoorMgal
set_option maxHeartbeats 32000000
set_option maxRecDepth 100000
namespace Go.Proofs.YthlhgiihngcobaaGreatDoor
def zaJ(h:List Op3)(t:Int)(i:Nat):Int:=zcP (h.take i) t
theorem zcx{h:List Op3}(hc:zeF h){i j:Nat}(hij:i<j)(hj:j<h.length)(he:zax (opAt h i).2.1=true):(opAt h i).1≠(opAt h j).1:=fun e=>by have h1:=List.pairwise_iff_getElem.1 hc i j (by omega) hj hij;rw[zdc (show i<h.length by omega),zdc hj]at e;rw[zdc (show i<h.length by omega)]at he;exact h1 ⟨e,he⟩
theorem zf7{o:Op3}{r:List Op3}{t:Int}(h:o.1=t/\3<=o.2.1):zcP (o::r) t=o.2.1:=if_pos h
theorem zhG{o:Op3}{r:List Op3}{t:Int}(h:¬(o.1=t/\3<=o.2.1)):zcP (o::r) t=zcP r t:=if_neg h
theorem zkN(l m:List Op3)(t:Int):zcP (l++m) t=if zcP l t=0 then zcP m t else zcP l t:=by
 induction l with
 | nil=>rfl
 | cons o r ih =>
   rw[List.cons_append];by_cases hc:o.1=t/\3<=o.2.1
   ·rw[zf7 hc,zf7 hc,if_neg (by omega)]
   ·rw[zhG hc,zhG hc,ih]
theorem endBy_zero(h:List Op3)(t:Int):zaJ h t 0=0:=by simp[zaJ,zcP]
theorem endBy_succ{h:List Op3}{i:Nat}(hi:i<h.length)(t:Int):zaJ h t (i+1)=if zaJ h t i=0 then(if(opAt h i).1=t/\3<=(opAt h i).2.1 then(opAt h i).2.1 else 0)else zaJ h t i:=by unfold zaJ;rw[List.take_succ_eq_append_getElem hi,zkN,zdc hi];simp[zcP]
theorem zbJ{h:List Op3}(t:Int):∀ {i:Nat},i<=h.length->zaJ h t i≠0->∃k,k<i/\(opAt h k).1=t/\3<=(opAt h k).2.1/\(opAt h k).2.1=zaJ h t i:=by
 intro i
 induction i with
 | zero=>intro _ h0;exact absurd (endBy_zero h t) h0
 | succ i ih =>
   intro hi h0;rw[endBy_succ (by omega)]at h0 ⊢;by_cases hz:zaJ h t i=0
   ·rw[if_pos hz]at h0 ⊢;by_cases hc:(opAt h i).1=t/\3<=(opAt h i).2.1
    ·rw[if_pos hc];exact⟨i,by omega,hc.1,hc.2,rfl⟩
    ·rw[if_neg hc]at h0;exact absurd rfl h0
   ·rw[if_neg hz]at h0 ⊢;obtain⟨k,k1,k2⟩:=ih (by omega) hz;exact⟨k,by omega,k2⟩
theorem zlJ{h:List Op3}(hc:zeF h)(hop:∀o∈h,isOpB o=true){t:Int}{k:Nat}:∀ {i:Nat},i<=h.length->k<i->(opAt h k).1=t->3<=(opAt h k).2.1->zaJ h t i=(opAt h k).2.1:=by
 intro i
 induction i with
 | zero=>intro _ h;omega
 | succ i ih =>
   intro hi hk ht he;rw[endBy_succ (by omega)];by_cases hz:zaJ h t i=0
   ·rw[if_pos hz];rcases Nat.lt_or_ge k i with e | e
    ·rw[ih (by omega) e ht he]at hz;omega
    ·rw[show k=i by omega]at ht he ⊢;rw[if_pos ⟨ht,he⟩]
   ·rw[if_neg hz];rcases Nat.lt_or_ge k i with e | e
    ·exact ih (by omega) e ht he
    ·obtain⟨m,m1,m2,m3,_⟩:=zbJ t (show i<=h.length by omega) hz;have hem:zax (opAt h m).2.1=true:=by rw[zcT (hop _ (zaj (show m<h.length by omega)))];simpa using m3
     exact absurd (by rw[m2,ht]) (zcx hc (show m<k by omega) (by omega) hem)
theorem endBy_kind{h:List Op3}(hop:∀o∈h,isOpB o=true)(t:Int){i:Nat}(hi:i<=h.length):zaJ h t i=0\/zaJ h t i=3\/zaJ h t i=4:=by
 by_cases h0:zaJ h t i=0
 ·exact .inl h0
 ·obtain⟨k,k1,_,k3,k4⟩:=zbJ t hi h0;have:=hop _ (zaj (show k<h.length by omega));simp[isOpB]at this;omega
theorem zn3{h:List Op3}(hc:zeF h)(hop:∀o∈h,isOpB o=true){i:Nat}(hi:i<h.length):zaJ h (opAt h i).1 i=0:=by
 by_cases h0:zaJ h (opAt h i).1 i=0
 ·exact h0
 ·obtain⟨k,k1,k2,k3,_⟩:=zbJ _ (Nat.le_of_lt hi) h0;have hem:zax (opAt h k).2.1=true:=by rw[zcT (hop _ (zaj (show k<h.length by omega)))];simpa using k3
  exact absurd k2 (zcx hc k1 hi hem)
def fromTo(h:List Op3)(x:Int)(i:Nat):Nat->Int
 | 0=>0
 | k+1=>if(opAt h k).2.1=2/\(opAt h k).2.2=x/\zaJ h (opAt h k).1 i≠4 then(opAt h k).1 else fromTo h x i k
def fromI(h:List Op3)(i:Nat):Int:=fromTo h (opAt h i).2.2 i i
theorem zey{h:List Op3}{x:Int}{i:Nat}:∀ {k:Nat},fromTo h x i k≠0->∃m,m<k/\(opAt h m).2.1=2/\(opAt h m).2.2=x/\zaJ h (opAt h m).1 i≠4/\(opAt h m).1=fromTo h x i k:=by
 intro k
 induction k with
 | zero=>intro h0;exact absurd rfl h0
 | succ k ih =>
   intro h0;rw[fromTo]at h0 ⊢;by_cases hc:(opAt h k).2.1=2/\(opAt h k).2.2=x/\zaJ h (opAt h k).1 i≠4
   ·rw[if_pos hc];exact⟨k,by omega,hc.1,hc.2.1,hc.2.2,rfl⟩
   ·rw[if_neg hc]at h0 ⊢;obtain⟨m,m1,m2⟩:=ih h0;exact⟨m,by omega,m2⟩
def zmq(h:List Op3)(i:Nat)(what:Int)(k:Nat):Bool:=(List.range k).any fun m=>(opAt h m).2.1 == what && ((opAt h m).2.2 == (opAt h i).2.2 && ((opAt h m).1 != (opAt h i).1 && zaJ h (opAt h m).1 i == 0))
def zb2(h:List Op3)(i:Nat)(what:Int):Bool:=zmq h i what i
theorem zbk{h:List Op3}{i:Nat}{what:Int}:zb2 h i what=true↔∃m,m<i/\(opAt h m).2.1=what/\(opAt h m).2.2=(opAt h i).2.2/\(opAt h m).1≠(opAt h i).1/\zaJ h (opAt h m).1 i=0:=by simp[zb2,zmq]
def whenTo(h:List Op3)(t:Int):Nat->Int
 | 0=>-1
 | k+1=>if whenTo h t k=-1 then(if(opAt h k).1=t/\(opAt h k).2.1=3 then k else -1)else whenTo h t k
def zbc(h:List Op3)(t:Int):Int:=whenTo h t h.length
theorem zaU{h:List Op3}{t:Int}:∀ {k:Nat},whenTo h t k≠-1->∃m:Nat,m<k/\whenTo h t k=m/\(opAt h m).1=t/\(opAt h m).2.1=3:=by
 intro k
 induction k with
 | zero=>intro h0;exact absurd rfl h0
 | succ k ih =>
   intro h0;rw[whenTo]at h0 ⊢;by_cases hz:whenTo h t k=-1
   ·rw[if_pos hz]at h0 ⊢;by_cases hc:(opAt h k).1=t/\(opAt h k).2.1=3
    ·rw[if_pos hc];exact⟨k,by omega,rfl,hc.1,hc.2⟩
    ·rw[if_neg hc]at h0;exact absurd rfl h0
   ·rw[if_neg hz]at h0 ⊢;obtain⟨m,m1,m2⟩:=ih hz;exact⟨m,by omega,m2⟩
theorem ze1{h:List Op3}{t:Int}{m:Nat}(h1:(opAt h m).1=t)(h2:(opAt h m).2.1=3):∀ {k:Nat},m<k->whenTo h t k≠-1/\whenTo h t k<=m:=by
 intro k
 induction k with
 | zero=>intro h;omega
 | succ k ih =>
   intro hk;rw[whenTo];by_cases hz:whenTo h t k=-1
   ·rw[if_pos hz];rcases Nat.lt_or_ge m k with e | e
    ·exact absurd hz (ih e).1
    ·rw[show m=k by omega]at h1 h2 ⊢;rw[if_pos ⟨h1,h2⟩];omega
   ·rw[if_neg hz];rcases Nat.lt_or_ge m k with e | e
    ·exact ih e
    ·obtain⟨q,q1,q2,_⟩:=zaU hz;exact⟨hz,by omega⟩
def recAt(h:List Op3)(i:Nat):Bool:=!((opAt h i).2.1 == 1 && (fromI h i != 0 && (fromI h i != (opAt h i).1 && (decide (0<=zbc h (opAt h i).1) && (decide (zbc h (fromI h i)<0) || decide (zbc h (opAt h i).1<zbc h (fromI h i)))))))
def cauAt(h:List Op3)(i:Nat):Bool:=!((opAt h i).2.1 == 1 && (fromI h i != 0 && (fromI h i != (opAt h i).1 && zaJ h (fromI h i) i != 3)))
def strAt(h:List Op3)(i:Nat):Bool:=!(decide ((opAt h i).2.1<=2) && zb2 h i 2)
def rigAt(h:List Op3)(i:Nat):Bool:=!(decide ((opAt h i).2.1<=2) && (zb2 h i 2 || ((opAt h i).2.1 == 2 && zb2 h i 1)))
def zi6(h:List Op3):Bool:=(List.range h.length).all (recAt h)
def ziR(h:List Op3):Bool:=(List.range h.length).all (cauAt h)
def ziG(h:List Op3):Bool:=(List.range h.length).all (strAt h)
def zg8(h:List Op3):Bool:=(List.range h.length).all (rigAt h)
theorem zbX{p:Nat->Bool}{n:Nat}:(List.range n).all p=true↔∀i,i<n->p i=true:=by simp
theorem zm9{h:List Op3}(hr:zg8 h=true):ziG h=true:=zbX.2 fun i hi=>by have:=zbX.1 hr i hi;unfold rigAt at this;unfold strAt;cases h1:decide ((opAt h i).2.1<=2) <;> cases h2:zb2 h i 2 <;> simp_all
theorem zmH{h:List Op3}(hop:∀o∈h,isOpB o=true)(hs:ziG h=true):ziR h=true:=zbX.2 fun i hi=>by
 have h1:=zbX.1 hs i hi;unfold cauAt;cases hr:(opAt h i).2.1 == 1 with
 | false=>rfl
 | true =>
   have hr1:(opAt h i).2.1=1:=by simpa using hr
   cases hf:fromI h i != 0 with
   | false=>rfl
   | true =>
     cases hg:fromI h i != (opAt h i).1 with
     | false=>rfl
     | true =>
       obtain⟨m,m1,m2,m3,m4,m5⟩:=zey (show fromTo h (opAt h i).2.2 i i≠0 by simpa[fromI]using hf);have m5':(opAt h m).1=fromI h i:=m5;have hno:zb2 h i 2=false:=by unfold strAt at h1;simpa[hr1]using h1
       have h0:zaJ h (fromI h i) i≠0:=fun e=>by have:zb2 h i 2=true:=zbk.2 ⟨m,m1,m2,m3,by rw[m5'];simpa using hg,by rw[m5'];exact e⟩;rw[this]at hno;cases hno
       rw[m5']at m4;rcases endBy_kind hop (fromI h i) (Nat.le_of_lt hi)with e | e | e
       ·exact absurd e h0
       ·simp[e]
       ·exact absurd e m4
theorem zmE{h:List Op3}(hc:zeF h)(hs:ziR h=true):zi6 h=true:=zbX.2 fun i hi=>by
 have h1:=zbX.1 hs i hi;unfold cauAt at h1;unfold recAt;cases hr:(opAt h i).2.1 == 1 with
 | false=>rfl
 | true =>
   cases hf:fromI h i != 0 with
   | false=>rfl
   | true =>
     cases hg:fromI h i != (opAt h i).1 with
     | false=>rfl
     | true =>
       rw[hr,hf,hg]at h1;have h3:zaJ h (fromI h i) i=3:=by simpa using h1
       obtain⟨k,k1,k2,k3,k4⟩:=zbJ (fromI h i) (Nat.le_of_lt hi) (by rw[h3];decide);have hw:=ze1 (t:=fromI h i) k2 (by rw[k4,h3]) (show k<h.length by omega);obtain⟨q,_,q2,_⟩:=zaU hw.1;by_cases hm:zbc h (opAt h i).1=-1
       ·rw[show decide (0<=zbc h (opAt h i).1)=false from decide_eq_false (by rw[hm];decide)];rfl
       ·obtain⟨m,m1,m2,m3,m4⟩:=zaU hm
        have him:i<m:=by
         rcases Nat.lt_trichotomy i m with e | e | e
         ·exact e
         ·subst e;have:(opAt h i).2.1=1:=by simpa using hr
          omega
         ·have hem:zax (opAt h m).2.1=true:=by rw[m4];rfl
          exact absurd m3 (zcx hc e hi hem)
        have e1:zbc h (fromI h i)=q:=q2;have e2:zbc h (opAt h i).1=m:=m2;have hqk:(q:Int)<=k:=by rw[<-q2];exact hw.2
        rw[show decide (zbc h (fromI h i)<0)=false from decide_eq_false (by omega),show decide (zbc h (opAt h i).1<zbc h (fromI h i))=false from decide_eq_false (by omega)];simp
theorem zf9{h:List Op3}{n k:Nat}(hk:k<n):opAt (h.take n) k=opAt h k:=by simp[opAt,List.getD,hk]
end Go.Proofs.YthlhgiihngcobaaGreatDoor
namespace Go.Proofs.YthlhgiihngcobaaGreatDoor
def zcR(p:Nat->Bool)(n:Nat):Bool:=(List.range n).any p
theorem zdd{p:Nat->Bool}{n:Nat}:zcR p n=true↔∃i,i<n/\p i=true:=by unfold zcR;simp
theorem zej{p:Nat->Bool}{n:Nat}:zcR p n=false↔∀i,i<n->p i=false:=by unfold zcR;simp
def zor(h:List Op3)(i:Nat):Bool:=(opAt h i).2.1 == 2 && zb2 h i 2
def zos(h:List Op3)(i:Nat):Bool:=(opAt h i).2.1 == 1 && zb2 h i 2
def znZ(h:List Op3)(i:Nat):Bool:=(opAt h i).2.1 == 2 && zb2 h i 1
def zia(h:List Op3)(i:Nat):Bool:=decide ((opAt h i).2.1<=2) && (zb2 h i 2 || ((opAt h i).2.1 == 2 && zb2 h i 1))
def znX(h:List Op3)(i k j:Nat):Bool :=(opAt h i).2.1 == 1 && ((opAt h k).2.1 == 2 && ((opAt h j).2.1 == 2 && ((opAt h i).1 == (opAt h j).1 && ((opAt h i).1 != (opAt h k).1 && ((opAt h i).2.2 == (opAt h k).2.2 && ((opAt h i).2.2 == (opAt h j).2.2 && zcP h (opAt h i).1 == 3))))))
def zom(h:List Op3)(i k n:Nat):Bool:=zcR (fun j=>decide (k<j) && znX h i k j) n
def zot(h:List Op3)(i n:Nat):Bool:=zcR (fun k=>decide (i<k) && zom h i k h.length) n
def zm1(h:List Op3)(n:Nat):Bool:=zcR (fun i=>zot h i h.length) n
def zcg(h:List Op3):Nat->Int
 | 0=>-1
 | k+1=>if zcg h k<0/\zia h k=true then k else zcg h k
def zjK(h:List Op3):(Bool × Bool × Bool × Bool) × Int:=((zcR (zor h) h.length,zcR (zos h) h.length,zcR (znZ h) h.length,zm1 h h.length),zcg h h.length)
theorem znp(h:List Op3)(i:Nat):rigAt h i=!zia h i:=rfl
theorem first_spec(h:List Op3):∀n,(zcg h n=-1/\∀i,i<n->zia h i=false)\/∃k:Nat,zcg h n=k/\k<n/\zia h k=true/\∀i,i<k->zia h i=false:=by
 intro n
 induction n with
 | zero=>exact .inl ⟨rfl,fun i hi=>by omega⟩
 | succ n ih =>
   rcases ih with⟨h1,h2⟩ | ⟨k,h1,h2,h3,h4⟩
   ·unfold zcg;rw[h1];cases hx:zia h n with
    | true=>exact .inr ⟨n,by simp,by omega,hx,h2⟩
    | false =>
      refine .inl ⟨by simp,fun i hi=>?_⟩;rcases Nat.lt_or_ge i n with e | e
      ·exact h2 i e
      ·rw[show i=n by omega];exact hx
   ·refine .inr ⟨k,?_,by omega,h3,h4⟩;unfold zcg;rw[h1,if_neg (by omega)]
theorem lost_unrep{h:List Op3}(hc:(chk h).2=0)(hl:zm1 h h.length=true):zcR (znZ h) h.length=true:=by
 obtain⟨i,hi,h1⟩:=zdd.1 hl;obtain⟨k,hk,h2⟩:=zdd.1 h1;rw[Bool.and_eq_true,decide_eq_true_eq]at h2;obtain⟨j,hj,h3⟩:=zdd.1 h2.2;rw[Bool.and_eq_true,decide_eq_true_eq]at h3;have h4:=h3.2;unfold znX at h4;simp only[Bool.and_eq_true,beq_iff_eq,bne_iff_ne]at h4;obtain⟨a1,a2,a3,a4,a5,a6,a7,a8⟩:=h4;refine zdd.2 ⟨k,hk,?_⟩;unfold znZ;rw[Bool.and_eq_true];refine⟨by simpa using a2,zbk.2 ⟨i,h2.1,a1,a6,a5,?_⟩⟩;obtain⟨_,hop,hcalm⟩:=(zbT h).1 hc;unfold zaJ;rw[zd5 _ _ fun o ho=>hop o (List.mem_of_mem_take ho)];rw[zdg];rintro o ho ⟨e1,e2⟩;obtain⟨m,hm,e3⟩:=List.mem_iff_getElem.1 ho;rw[List.length_take]at hm;rw[List.getElem_take]at e3;have e4:opAt h m=o:=by rw[zdc (show m<h.length by omega)];exact e3
 have:=zcx hcalm (show m<j by omega) hj (by rw[e4];exact e2);rw[e4,e1]at this;exact this a4
end Go.Proofs.YthlhgiihngcobaaGreatDoor
