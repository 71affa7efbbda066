/-
  PROVED HERE: plain facts, with no word of the program; faces.endsOf tells how each deal of a right list ends, and where, as a row of seven.
  Conditions: none but those that each theorem's own premises say.
-/
import Derived.Test.YthlhgiihngcobaaGreatDoorMgas
import Derived.Test.YthlhgiihngcobaaGreatDoorMgai
import Derived.Laws.Rows
import Derived.Deep.Cut
set_option maxHeartbeats 32000000
set_option maxRecDepth 100000
namespace Go.Proofs.YthlhgiihngcobaaGreatDoor
def zme(f:Nat->Int × Int)(x:Nat)(p:Int × Int):Nat->Int × Int:=fun i=>if i=x then p else f i
def zbI(h:List Op3):Nat->Nat->Int × Int
 | 0=>fun _=>(0,0)
 | k+1=>if zax (opAt h k).2.1=true then zme (zbI h k) (opAt h k).1.toNat ((opAt h k).2.1,(k:Int))else zbI h k
theorem zfo{h:List Op3}{k:Nat}(he:zax (opAt h k).2.1=true):zbI h (k+1)=zme (zbI h k) (opAt h k).1.toNat ((opAt h k).2.1,(k:Int)):=if_pos he
theorem zhs{h:List Op3}{k:Nat}(he:zax (opAt h k).2.1=false):zbI h (k+1)=zbI h k:=if_neg (by rw[he];decide)
theorem endsB_two{a:Int}(h:zax a=true):a=3\/a=4:=by simpa[zax]using h
theorem zd8{h:List Op3}{x:Nat}:∀ {k:Nat},(zbI h k x).1≠0->∃m:Nat,m<k/\(opAt h m).1.toNat=x/\zax (opAt h m).2.1=true/\zbI h k x=((opAt h m).2.1,(m:Int)):=by
 intro k
 induction k with
 | zero=>intro h0;exact absurd rfl h0
 | succ k ih =>
   intro h0;cases he:zax (opAt h k).2.1 with
   | false =>rw[zhs he]at h0 ⊢;obtain⟨m,m1,m2⟩:=ih h0;exact⟨m,by omega,m2⟩
   | true =>
     rw[zfo he]at h0 ⊢;unfold zme at h0 ⊢;by_cases hx:x=(opAt h k).1.toNat
     ·rw[if_pos hx];exact⟨k,by omega,hx.symm,he,rfl⟩
     ·rw[if_neg hx]at h0 ⊢;obtain⟨m,m1,m2⟩:=ih h0;exact⟨m,by omega,m2⟩
theorem zlQ{h:List Op3}{m x:Nat}(hx:(opAt h m).1.toNat=x)(he:zax (opAt h m).2.1=true):∀ {k:Nat},m<k->(zbI h k x).1≠0:=by
 intro k
 induction k with
 | zero=>intro h;omega
 | succ k ih =>
   intro hk;cases hk':zax (opAt h k).2.1 with
   | false =>
     rw[zhs hk'];refine ih ?_;rcases Nat.lt_or_ge m k with e | e
     ·exact e
     ·rw[show m=k by omega,hk']at he;cases he
   | true =>
     rw[zfo hk'];unfold zme;by_cases hx':x=(opAt h k).1.toNat
     ·rw[if_pos hx'];rcases endsB_two hk' with e | e <;> simp[e]
     ·rw[if_neg hx'];refine ih ?_;rcases Nat.lt_or_ge m k with e | e
      ·exact e
      ·rw[show m=k by omega]at hx;exact absurd hx.symm hx'
def byE(f:Nat->Int × Int)(t i a:Int):Bool:=(f t.toNat).1 == a && decide ((f t.toNat).2<i)
theorem zji{h:List Op3}(hc:zeF h)(hop:∀o∈h,isOpB o=true){m k:Nat}(hm:m<h.length)(hk:k<h.length)(ht:(opAt h m).1.toNat=(opAt h k).1.toNat)(e1:zax (opAt h m).2.1=true)(e2:zax (opAt h k).2.1=true):m=k:=by
 have t1:=zaG (hop _ (zaj hm));have t2:=zaG (hop _ (zaj hk));have he:(opAt h m).1=(opAt h k).1:=by omega
 rcases Nat.lt_trichotomy m k with e | e | e
 ·exact absurd he (zcx hc e hk e1)
 ·exact e
 ·exact absurd he.symm (zcx hc e hm e2)
theorem zkr{h:List Op3}(hc:zeF h)(hop:∀o∈h,isOpB o=true){m:Nat}(hm:m<h.length)(he:zax (opAt h m).2.1=true):zbI h h.length (opAt h m).1.toNat=((opAt h m).2.1,(m:Int)):=by obtain⟨k,k1,k2,k3,k4⟩:=zd8 (zlQ rfl he hm);rw[k4,zji hc hop k1 hm k2 k3 he]
theorem zfD{h:List Op3}(hc:zeF h)(hop:∀o∈h,isOpB o=true){t a:Int}(ht:1<=t)(ha:a=3\/a=4){i:Nat}(hi:i<=h.length):byE (zbI h h.length) t i a=(zaJ h t i == a):=by
 rw[Bool.eq_iff_iff];unfold byE;simp only[Bool.and_eq_true,beq_iff_eq,decide_eq_true_eq];constructor
 ·rintro⟨h1,h2⟩;obtain⟨m,m1,m2,m3,m4⟩:=zd8 (h:=h) (x:=t.toNat) (k:=h.length) (by omega);rw[m4]at h1 h2;have tm:=zaG (hop _ (zaj m1));rw[zlJ hc hop hi (show m<i by simpa using h2) (show(opAt h m).1=t by omega) (by simp only at h1;omega)];exact h1
 ·intro h1;obtain⟨k,k1,k2,k3,k4⟩:=zbJ t hi (by omega);have hk:k<h.length:=by omega
  have hek:zax (opAt h k).2.1=true:=by rw[zcT (hop _ (zaj hk))];simpa using k3
  have:=zkr hc hop hk hek;rw[k2]at this;rw[this];exact⟨by simp only;omega,by simp only;omega⟩
def zcA(h:List Op3):Nat->List zaa
 | 0=>[]
 | k+1=>if(opAt h k).2.1=1 then zcA h k++[((k:Int),fromI h k)]else zcA h k
theorem zgs(h:List Op3)(k:Nat):(zcA h k).length<=k:=by
 induction k with
 | zero=>exact Nat.le_refl _
 | succ k ih =>
   rw[zcA];split
   ·rw[List.length_append];simp;omega
   ·omega
theorem zkR{h:List Op3}{e:zaa}:∀ {k:Nat},e∈zcA h k↔∃i:Nat,i<k/\(opAt h i).2.1=1/\e=((i:Int),fromI h i):=by
 intro k
 induction k with
 | zero=>exact⟨fun h=>absurd h (by simp[zcA]),fun⟨i,h,_⟩=>absurd h (by omega)⟩
 | succ k ih =>
   rw[zcA];by_cases h1:(opAt h k).2.1=1
   ·rw[if_pos h1,List.mem_append,ih];constructor
    ·rintro(⟨i,i1,i2⟩ | h2)
     ·exact⟨i,by omega,i2⟩
     ·exact⟨k,by omega,h1,by simpa using h2⟩
    ·rintro⟨i,i1,i2,i3⟩;rcases Nat.lt_or_ge i k with e | e
     ·exact .inl ⟨i,e,i2,i3⟩
     ·rw[show i=k by omega]at i3;exact .inr (by simp[i3])
   ·rw[if_neg h1,ih];constructor
    ·rintro⟨i,i1,i2⟩;exact⟨i,by omega,i2⟩
    ·rintro⟨i,i1,i2,i3⟩;refine⟨i,?_,i2,i3⟩;rcases Nat.lt_or_ge i k with e | e
     ·exact e
     ·rw[show i=k by omega]at i2;exact absurd i2 h1
def zlj(h:List Op3)(s:zaa):Bool:=s.2 == 0 || s.2 == (opAt h s.1.toNat).1
def zcB(h:List Op3):List zaa:=(zcA h h.length).filter fun s=>!zlj h s
theorem zcy{h:List Op3}{e:zaa}:e∈zcB h↔∃i:Nat,i<h.length/\(opAt h i).2.1=1/\e=((i:Int),fromI h i)/\fromI h i≠0/\fromI h i≠(opAt h i).1:=by
 unfold zcB;rw[List.mem_filter,zkR];constructor
 ·rintro⟨⟨i,i1,i2,rfl⟩,h2⟩;simp[zlj]at h2;exact⟨i,i1,i2,rfl,h2.1,h2.2⟩
 ·rintro⟨i,i1,i2,rfl,h2,h3⟩;refine⟨⟨i,i1,i2,rfl⟩,?_⟩;simp[zlj];exact⟨h2,h3⟩
theorem zfs{h:List Op3}(hop:∀o∈h,isOpB o=true){i:Nat}(hi:i<h.length)(h0:fromI h i≠0):1<=fromI h i/\fromI h i<=6:=by obtain⟨m,m1,_,_,_,m5⟩:=zey (show fromTo h (opAt h i).2.2 i i≠0 from h0);have:=zaG (hop _ (zaj (show m<h.length by omega)));unfold fromI;omega
def zcF(h:List Op3)(f:Nat->Int × Int)(s:zaa):Bool:=(f (opAt h s.1.toNat).1.toNat).1 == 3 && !byE f s.2 (f (opAt h s.1.toNat).1.toNat).2 3
def zeb(f:Nat->Int × Int)(s:zaa):Bool:=!byE f s.2 s.1 3
def zdh(h:List Op3)(f:Nat->Int × Int)(p:zaa):Bool:=!(byE f (opAt h p.1.toNat).1 p.2 3 || byE f (opAt h p.1.toNat).1 p.2 4)
def zeM(h:List Op3)(f:Nat->Int × Int)(p:zaa):Bool:=(opAt h p.1.toNat).2.1 == 2 && zdh h f p
theorem zfA{α:Type}{l:List α}{p:α->Bool}:(!l.any p)=true↔∀x∈l,p x=false:=by simp
theorem zl6{h:List Op3}(hc:zeF h)(hop:∀o∈h,isOpB o=true):(!(zcB h).any (zeb (zbI h h.length)))=ziR h:=by
 rw[Bool.eq_iff_iff,zfA];unfold ziR;rw[zbX];have key:∀i,i<h.length->fromI h i≠0->zeb (zbI h h.length) ((i:Int),fromI h i)=!(zaJ h (fromI h i) i == 3):=fun i hi h0=>by unfold zeb;rw[zfD hc hop (zfs hop hi h0).1 (.inl rfl) (Nat.le_of_lt hi)]
 constructor
 ·intro H i hi;unfold cauAt;cases h1:(opAt h i).2.1 == 1 with
  | false=>rfl
  | true =>
    cases h2:fromI h i != 0 with
    | false=>rfl
    | true =>
      cases h3:fromI h i != (opAt h i).1 with
      | false=>rfl
      | true =>
        have h2':fromI h i≠0:=by simpa using h2
        have:=H _ (zcy.2 ⟨i,hi,by simpa using h1,rfl,h2',by simpa using h3⟩);rw[key i hi h2']at this;simpa using this
 ·intro H e he;obtain⟨i,i1,i2,rfl,i4,i5⟩:=zcy.1 he;rw[key i i1 i4];have:=H i i1;unfold cauAt at this;simpa[i2,i4,i5]using this
theorem zhQ{h:List Op3}(hc:zeF h)(hop:∀o∈h,isOpB o=true){t:Int}(ht:1<=t):((zbI h h.length t.toNat).1=3/\(zbI h h.length t.toNat).2=zbc h t/\0<=zbc h t)\/((zbI h h.length t.toNat).1≠3/\zbc h t=-1):=by
 by_cases h3:(zbI h h.length t.toNat).1=3
 ·obtain⟨m,m1,m2,m3,m4⟩:=zd8 (h:=h) (x:=t.toNat) (k:=h.length) (by omega);have tm:=zaG (hop _ (zaj m1));rw[m4]at h3 ⊢;have hw:=ze1 (h:=h) (t:=t) (m:=m) (by omega) h3 m1;obtain⟨q,q1,q2,q3,q4⟩:=zaU hw.1;have hq:q=m:=zji hc hop q1 m1 (by omega) (by rw[q4];rfl) m3;subst hq;have e:zbc h t=q:=q2;exact .inl ⟨h3,by rw[e],by rw[e];omega⟩
 ·refine .inr ⟨h3,?_⟩;by_cases hw:zbc h t=-1
  ·exact hw
  ·obtain⟨q,q1,q2,q3,q4⟩:=zaU hw;have:=zkr hc hop q1 (by rw[q4];rfl);rw[q3]at this;rw[this]at h3;exact absurd q4 h3
theorem zlm{h:List Op3}(hc:zeF h)(hop:∀o∈h,isOpB o=true):(!(zcB h).any (zcF h (zbI h h.length)))=zi6 h:=by
 rw[Bool.eq_iff_iff,zfA];unfold zi6;rw[zbX]
 have key:∀i,i<h.length->fromI h i≠0->fromI h i≠(opAt h i).1->zcF h (zbI h h.length) ((i:Int),fromI h i)=(decide (0<=zbc h (opAt h i).1) && (decide (zbc h (fromI h i)<0) || decide (zbc h (opAt h i).1<zbc h (fromI h i)))):=fun i hi h0 hne=>by
  have ti:=zaG (hop _ (zaj hi));have tf:=zfs hop hi h0;have w1:=zhQ hc hop ti.1;have w2:=zhQ hc hop tf.1
  have hun:0<=zbc h (opAt h i).1->zbc h (opAt h i).1≠zbc h (fromI h i):=fun hz he=>by
   obtain⟨q,q1,q2,q3,q4⟩:=zaU (show whenTo h (opAt h i).1 h.length≠-1 from fun h=>by unfold zbc at hz;omega);obtain⟨p,p1,p2,p3,p4⟩:=zaU (show whenTo h (fromI h i) h.length≠-1 from fun h=>by unfold zbc at hz he;omega);have:(q:Int)=p:=by rw[<-q2,<-p2];exact he
   have:q=p:=by omega
   subst this;rw[q3]at p3;exact hne p3.symm
  unfold zcF byE;simp only[Int.toNat_natCast];rw[Bool.eq_iff_iff];simp only[Bool.and_eq_true,beq_iff_eq,Bool.not_eq_true',Bool.and_eq_false_iff,beq_eq_false_iff_ne,decide_eq_false_iff_not,decide_eq_true_eq,Bool.or_eq_true,ne_eq];constructor
  ·rintro⟨a1,a2⟩;rcases w1 with⟨b1,b2,b3⟩ | ⟨b1,_⟩
   ·refine⟨b3,?_⟩;have hu:=hun b3;rcases w2 with⟨c1,c2,c3⟩ | ⟨_,c2⟩
    ·rcases a2 with a2 | a2
     ·exact absurd c1 a2
     ·right;omega
    ·left;omega
   ·exact absurd a1 b1
  ·rintro⟨a1,a2⟩;rcases w1 with⟨b1,b2,b3⟩ | ⟨_,b2⟩
   ·refine⟨b1,?_⟩;rcases w2 with⟨c1,c2,c3⟩ | ⟨c1,_⟩
    ·right;omega
    ·exact .inl c1
   ·omega
 constructor
 ·intro H i hi;unfold recAt;cases h1:(opAt h i).2.1 == 1 with
  | false=>rfl
  | true =>
    cases h2:fromI h i != 0 with
    | false=>rfl
    | true =>
      cases h3:fromI h i != (opAt h i).1 with
      | false=>rfl
      | true =>
        have h2':fromI h i≠0:=by simpa using h2
        have h3':fromI h i≠(opAt h i).1:=by simpa using h3
        have:=H _ (zcy.2 ⟨i,hi,by simpa using h1,rfl,h2',h3'⟩);rw[key i hi h2' h3']at this;rw[this];rfl
 ·intro H e he;obtain⟨i,i1,i2,rfl,i4,i5⟩:=zcy.1 he;rw[key i i1 i4 i5];have:=H i i1;unfold recAt at this;rw[show((opAt h i).2.1 == 1)=true by simp[i2],show(fromI h i != 0)=true by simp[i4],show(fromI h i != (opAt h i).1)=true by simp[i5]]at this;simpa only[Bool.true_and,Bool.not_eq_true']using this
theorem zc4{h:List Op3}(hc:zeF h)(hop:∀o∈h,isOpB o=true){i j:Nat}(hi:i<h.length)(hj:j<h.length):zdh h (zbI h h.length) ((i:Int),(j:Int))=(zaJ h (opAt h i).1 j == 0):=by have ti:=zaG (hop _ (zaj hi));unfold zdh;simp only[Int.toNat_natCast];rw[zfD hc hop ti.1 (.inl rfl) (Nat.le_of_lt hj),zfD hc hop ti.1 (.inr rfl) (Nat.le_of_lt hj)];rcases endBy_kind hop (opAt h i).1 (Nat.le_of_lt hj)with e | e | e <;> rw[e] <;> rfl
theorem zg3{o:Op3}(h:isOpB o=true)(h1:1<=o.2.2):o.2.1=1\/o.2.1=2:=by
 simp only[isOpB,Bool.and_eq_true,Bool.not_eq_true',Bool.or_eq_false_iff,decide_eq_false_iff_not]at h;obtain⟨⟨⟨_,h3⟩,h4⟩,h5⟩:=h;by_cases he:zax o.2.1=true
 ·rw[if_pos he]at h5;have:o.2.2=0:=by simpa using h5
  omega
 ·simp only[zax,Bool.or_eq_true,beq_iff_eq,not_or]at he;omega
theorem zkC{h:List Op3}(hc:zeF h)(hop:∀o∈h,isOpB o=true):(!(pairsL h).any (zeM h (zbI h h.length)))=ziG h:=by
 rw[Bool.eq_iff_iff,zfA];unfold ziG;rw[zbX];constructor
 ·intro H i hi;unfold strAt;cases h1:decide ((opAt h i).2.1<=2)with
  | false=>rfl
  | true =>
    cases h2:zb2 h i 2 with
    | false=>rfl
    | true =>obtain⟨m,m1,m2,m3,m4,m5⟩:=zbk.1 h2;have:=H _ (zaQ.2 ⟨m,i,m1,hi,by simp[zeG,m2,m3,m4],rfl⟩);unfold zeM at this;rw[zc4 hc hop (by omega) hi,m5]at this;simp[m2]at this
 ·intro H e he;obtain⟨m,i,m1,hi,ho,rfl⟩:=zaQ.1 he;unfold zeM;rw[zc4 hc hop (by omega) hi];simp only[zeG,Bool.and_eq_true,bne_iff_ne,beq_iff_eq,Bool.or_eq_true]at ho;obtain⟨o1,o2,o3⟩:=ho;simp only[Int.toNat_natCast];cases h2:(opAt h m).2.1 == 2 with
  | false=>rfl
  | true =>
    have h2':(opAt h m).2.1=2:=by simpa using h2
    have hit:=zce (hop _ (zaj (show m<h.length by omega))) (.inr h2');have hk:=zg3 (hop _ (zaj hi)) (by omega);have h3:=H i hi;unfold strAt at h3;rw[show decide ((opAt h i).2.1<=2)=true from decide_eq_true (by omega)]at h3;cases h4:zaJ h (opAt h m).1 i == 0 with
    | false=>rfl
    | true=>rw[zbk.2 ⟨m,m1,h2',o2,o1,by simpa using h4⟩]at h3;cases h3
theorem zjE{h:List Op3}(hc:zeF h)(hop:∀o∈h,isOpB o=true):(!(pairsL h).any (zdh h (zbI h h.length)))=zg8 h:=by
 rw[Bool.eq_iff_iff,zfA];unfold zg8;rw[zbX];constructor
 ·intro H i hi;unfold rigAt;cases h1:decide ((opAt h i).2.1<=2)with
  | false=>rfl
  | true =>
    have hno:∀wh,(wh=2\/(opAt h i).2.1=2)->zb2 h i wh=false:=fun wh hwh=>by
     cases h2:zb2 h i wh with
     | false=>rfl
     | true =>
       obtain⟨m,m1,m2,m3,m4,m5⟩:=zbk.1 h2
       have hodd:zeG (opAt h m) (opAt h i)=true:=by
        rcases hwh with e | e
        ·simp[zeG,m2,m3,m4,e]
        ·simp[zeG,m3,m4,e]
       have:=H _ (zaQ.2 ⟨m,i,m1,hi,hodd,rfl⟩);rw[zc4 hc hop (by omega) hi,m5]at this;simp at this
    rw[hno 2 (.inl rfl)];cases h2:(opAt h i).2.1 == 2 with
    | false=>rfl
    | true=>rw[hno 1 (.inr (by simpa using h2))];rfl
 ·intro H e he;obtain⟨m,i,m1,hi,ho,rfl⟩:=zaQ.1 he;rw[zc4 hc hop (by omega) hi];simp only[zeG,Bool.and_eq_true,bne_iff_ne,beq_iff_eq,Bool.or_eq_true]at ho;obtain⟨o1,o2,o3⟩:=ho;have hm:m<h.length:=by omega
  have hit:1<=(opAt h i).2.2:=by
   rcases o3 with e | e
   ·have:=zce (hop _ (zaj hm)) (.inr e);omega
   ·exact(zce (hop _ (zaj hi)) (.inr e)).1
  have hk:=zg3 (hop _ (zaj hi)) hit;have hkm:=zg3 (hop _ (zaj hm)) (by omega);have h3:=H i hi;unfold rigAt at h3;rw[show decide ((opAt h i).2.1<=2)=true from decide_eq_true (by omega)]at h3;cases h4:zaJ h (opAt h m).1 i == 0 with
  | false=>rfl
  | true =>
    have hop4:∀wh,(opAt h m).2.1=wh->zb2 h i wh=true:=fun wh e=>zbk.2 ⟨m,m1,e,o2,o1,by simpa using h4⟩;rcases hkm with e | e
    ·have h5:(opAt h i).2.1=2:=by
      rcases o3 with e3 | e3
      ·omega
      ·exact e3
     rw[hop4 1 e,h5]at h3;simp at h3
    ·rw[hop4 2 e]at h3;simp at h3
end Go.Proofs.YthlhgiihngcobaaGreatDoor
namespace Go.Proofs.YthlhgiihngcobaaGreatDoor
open Go.RowKit
def zhd(p:Int × Int)(j:Nat):Value:=match j with | 0=>.int .i64 p.1 | _=>.int .i64 p.2
def cells14(f:Nat->Int × Int):Array Value:=((List.range 14).map fun k=>zhd (f (k / 2)) (k % 2)).toArray
theorem zaA(f:Nat->Int × Int):(cells14 f).size=14:=by simp[cells14]
theorem zcv(f:Nat->Int × Int)(k:Nat)(h:k<14):(cells14 f)[k]? = some (zhd (f (k / 2)) (k % 2)):=by simp[cells14,h]
theorem zkg(n:Int × Int)(j:Nat):(zhd n j).oneCell'=true:=by unfold zhd;split <;> rfl
theorem zeD(f:Nat->Int × Int):(cells14 f).all (·.oneCell')=true:=by rw[Array.all_eq_true_iff_forall_mem];intro v hv;simp only[cells14,List.mem_toArray,List.mem_map]at hv;obtain⟨k,_,rfl⟩:=hv;exact zkg _ _
def zad(w:World)(b:Nat)(f:Nat->Int × Int):Prop:=w.heap[b]? = some (.cells (cells14 f) 121 (0,0))
theorem zad.lt{w:World}{b:Nat}{f:Nat->Int × Int}(h:zad w b f):b<w.heap.size:=by have h':w.heap[b]? = some _:=h;exact(Array.getElem?_eq_some_iff.1 h').1
theorem zad.cells{w:World}{b:Nat}{f:Nat->Int × Int}(h:zad w b f){x:Nat}(hx:x<7){a p:Int}(he:f x=(a,p)):w.cell? ⟨b,x*2,none⟩=some (.int .i64 a)/\w.cell? ⟨b,x*2+1,none⟩=some (.int .i64 p):=by
 constructor
 ·rw[cell_of_row w b _ _ _ _ h,zcv f _ (by omega),show(x*2) / 2=x by omega,show(x*2) % 2=0 by omega,he];rfl
 ·rw[cell_of_row w b _ _ _ _ h,zcv f _ (by omega),show(x*2+1) / 2=x by omega,show(x*2+1) % 2=1 by omega,he];rfl
theorem zad.thaw{w:World}{b:Nat}{f:Nat->Int × Int}(h:zad w b f)(k:Nat):w.frozen? ⟨b,k,none⟩=false:=by have h':w.heap[b]? = some _:=h;simp[World.frozen?,h']
theorem zad.same{w w':World}{b:Nat}{f:Nat->Int × Int}(h:zad w b f)(hb:w'.heap[b]? = w.heap[b]?):zad w' b f:=hb.trans h
theorem zad.below{w w1:World}{b B:Nat}{f:Nat->Int × Int}(h:zad w b f)(hb:Below B w w1)(hB:b<B):zad w1 b f:=(hb.block b hB).trans h
theorem zad.alloc{w:World}{b:Nat}{f:Nat->Int × Int}(h:zad w b f)(o:Obj):zad (w.alloc o) b f:=(Below.heap_alloc w o b h.lt).trans h
theorem zhr(f:Nat->Int × Int)(x:Nat)(n:Int × Int):((cells14 f |>.setIfInBounds (x*2) (zhd n 0)).setIfInBounds (x*2+1) (zhd n 1))=cells14 (zme f x n):=by
 refine Array.ext_getElem? fun j=>?_;by_cases hj:j<14
 ·rw[zcv _ j hj];simp only[Array.getElem?_setIfInBounds,Array.size_setIfInBounds,zaA];rw[zcv _ j hj];unfold zme;by_cases e:j / 2=x
  ·rw[if_pos e];rcases(show j=x*2\/j=x*2+1 by omega)with h | h
   ·rw[if_neg (by omega),if_pos h.symm,if_pos (by omega),show j % 2=0 by omega]
   ·rw[if_pos h.symm,if_pos (by omega),show j % 2=1 by omega]
  ·rw[if_neg e,if_neg (by omega),if_neg (by omega)]
 ·rw[Array.getElem?_eq_none (by simp[zaA];omega),Array.getElem?_eq_none (by simp[zaA];omega)]
theorem zad.set{w:World}{b:Nat}{f:Nat->Int × Int}(h:zad w b f)(x:Nat)(a p:Int):zad ((w.setCell ⟨b,x*2,none⟩ (.int .i64 a)).setCell ⟨b,x*2+1,none⟩ (.int .i64 p)) b (zme f x (a,p)):=by have h':w.heap[b]? = some (.cells (cells14 f) 121 (0,0)):=h;have h2:=zhr f x (a,p);simp only[zhd]at h2;unfold zad World.setCell;simp[Array.getElem?_modify,h',h2]
theorem zbO(w:World)(f:Nat->Int × Int):zad (w.alloc (.cells (cells14 f) 121)) w.heap.size f:=by unfold zad World.alloc;simp
theorem ze5(w:World)(c:Array Value)(h:cells14 (fun _=>(0,0))=c):zad (w.alloc (.cells c 121)) w.heap.size (fun _=>(0,0)):=h ▸zbO w _
theorem zjr:(Tryz.prog.info? 121).map (·.size)=some 14:=by kernel_rfl
theorem zaC(f:Nat->Int × Int):(Tryz.prog.info? 121).map (·.size)=some (cells14 f).size:=by rw[zaA];exact zjr
theorem zbQ(f:Nat->Int × Int)(t i:Int)(w:World)(h0:0<=t)(h7:t<7):Calls Tryz.prog 66 #[.agg (cells14 f),.int .i64 t,.int .i64 i] w fun e w'=>e=.returned (.bool (byE f t i 3))/\Below w.heap.size w w':=by
 obtain⟨⟨a,p⟩,hf⟩:∃n,f t.toNat=n:=⟨_,rfl⟩;have HE:Hid (byE f t i 3=(a == 3 && decide (p<i))):=by show byE f t i 3=_;unfold byE;rw[hf]
 have HF:Hid (f t.toNat=(a,p)):=hf;clear hf;go_enter Tryz.func66,Tryz.ntmps66
 go_upto_region 1 with(fail)
 obtain⟨W,hW⟩:∃W,W=w.alloc (.cells (cells14 f) 121):=⟨_,rfl⟩;rw[<-hW];have hE:zad W w.heap.size f:=by rw[hW];exact zbO w f
 have HB:Hid (Below w.heap.size w W):=by show Below _ _ _;rw[hW];exact(Below.refl _ w).alloc (Nat.le_refl _) _
 obtain⟨d0,d1⟩:=hE.cells (x:=t.toNat) (by omega) HF.out;clear hE hW;by_cases ha:a=3
 ·subst ha;by_cases hp:p<i
  ·go_wp2_with fail;go_ret;exact⟨by rw[HE.out];simp[hp],HB.out⟩
  ·go_wp2_with fail;go_ret;exact⟨by rw[HE.out];simp[hp],HB.out⟩
 ·have ha':(a == 3)=false:=by simpa using ha
  go_wp2_with fail;go_ret;exact⟨by rw[HE.out,ha'];rfl,HB.out⟩
theorem zed(f:Nat->Int × Int)(t i:Int)(w:World)(h0:0<=t)(h7:t<7):Calls Tryz.prog 131 #[.agg (cells14 f),.int .i64 t,.int .i64 i] w fun e w'=>e=.returned (.bool (byE f t i 4))/\Below w.heap.size w w':=by
 obtain⟨⟨a,p⟩,hf⟩:∃n,f t.toNat=n:=⟨_,rfl⟩;have HE:Hid (byE f t i 4=(a == 4 && decide (p<i))):=by show byE f t i 4=_;unfold byE;rw[hf]
 have HF:Hid (f t.toNat=(a,p)):=hf;clear hf;go_enter Tryz.func131,Tryz.ntmps131
 go_upto_region 1 with(fail)
 obtain⟨W,hW⟩:∃W,W=w.alloc (.cells (cells14 f) 121):=⟨_,rfl⟩;rw[<-hW];have hE:zad W w.heap.size f:=by rw[hW];exact zbO w f
 have HB:Hid (Below w.heap.size w W):=by show Below _ _ _;rw[hW];exact(Below.refl _ w).alloc (Nat.le_refl _) _
 obtain⟨d0,d1⟩:=hE.cells (x:=t.toNat) (by omega) HF.out;clear hE hW;by_cases ha:a=4
 ·subst ha;by_cases hp:p<i
  ·go_wp2_with fail;go_ret;exact⟨by rw[HE.out];simp[hp],HB.out⟩
  ·go_wp2_with fail;go_ret;exact⟨by rw[HE.out];simp[hp],HB.out⟩
 ·have ha':(a == 4)=false:=by simpa using ha
  go_wp2_with fail;go_ret;exact⟨by rw[HE.out,ha'];rfl,HB.out⟩
end Go.Proofs.YthlhgiihngcobaaGreatDoor
