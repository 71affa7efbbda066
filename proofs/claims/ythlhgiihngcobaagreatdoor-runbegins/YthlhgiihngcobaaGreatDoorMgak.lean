/-
  PROVED HERE: lanelaw3.RunOrders returns true, whatever the numbers, over whatever run.Run answers, if it orders the; history.printOp writes an op that is right as its text; plain facts on texts and ops, with no word of the program; plain facts, with no word of the program.
  Conditions: none but those that each theorem's own premises say.
-/
import Derived.Test.YthlhgiihngcobaaGreatDoorMgaf
import Derived.Test.YthlhgiihngcobaaGreatDoorMgaj
import Derived.Test.YthlhgiihngcobaaGreatDoorMgah
import Derived.Deep.Cut
import Derived.Laws.Concat
import Derived.Lib.Strings
import Derived.Test.YthlhgiihngcobaaGreatDoorMgad
import Derived.Test.YthlhgiihngcobaaGreatDoorMgag
import Derived.Deep.QuietTactic
import Derived.BigQuiet
import Derived.WalkSmall
import Derived.Test.YthlhgiihngcobaaGreatDoorMgai
set_option maxHeartbeats 32000000
set_option maxRecDepth 100000
namespace Go.Proofs.YthlhgiihngcobaaGreatDoor
open Go.RowKit Go.PlainAid
theorem zwr{P:List Int->Prop}(h0:P [])(h1:∀r d,P r->P (r++[d]))(l:List Int):P l:=by
 rw[<-List.reverse_reverse l]
 induction l.reverse with
 | nil=>exact h0
 | cons d r ih=>rw[List.reverse_cons];exact h1 _ d ih
end Go.Proofs.YthlhgiihngcobaaGreatDoor
namespace Go.Proofs.YthlhgiihngcobaaGreatDoor
open Go.RowKit
def zB2(a:Int):UInt8:=if a=1 then 114 else if a=2 then 119 else if a=3 then 99 else 97
def zfz(o:Op3):List UInt8:=zB2 o.2.1::zAE o.1::(if zaM o.2.1 then[]else[40,(96+o.2.2.toNat).toUInt8,41])
def zkL:List Op3->List UInt8
 | []=>[]
 | o::r=>zfz o++r.flatMap fun x=>32::zfz x
theorem zu3(l:List Op3)(o:Op3)(h:l≠[]):zkL (l++[o])=zkL l++32::zfz o:=by
 cases l with
 | nil=>exact absurd rfl h
 | cons a r=>simp[zkL]
theorem zfs(o:Op3):(zfz o).length<=5/\2<=(zfz o).length:=by unfold zfz;split <;> simp
theorem zo1(l:List Op3):(zkL l).length<=6*l.length:=by
 have h:∀r:List Op3,(r.flatMap fun x=>32::zfz x).length<=6*r.length:=by
  intro r
  induction r with
  | nil=>simp
  | cons a r ih=>have:=(zfs a).1;simp only[List.flatMap_cons,List.length_append,List.length_cons];omega
 cases l with
 | nil=>simp[zkL]
 | cons a r=>have:=(zfs a).1;have:=h r;simp only[zkL,List.length_append,List.length_cons];omega
theorem zn0{s u:ByteArray}(h:s=u):Ending.returned (.string s)=.returned (.string u):=by rw[h]
theorem zoz(t a:Int)(w:World)(h1:1<=t)(h6:t<=6)(ha:a=3\/a=4):Calls Tryz.prog 138 #[.agg #[.int .i64 t,.int .i64 a,.int .i64 0]] w fun e w'=>e=.returned (.string ⟨(zfz (t,a,0)).toArray⟩)/\Below w.heap.size w w':=by
 rcases ha with rfl | rfl
 ·go_enter Tryz.func138,Tryz.ntmps138;go_wp2;go_quiet ((go_at_call 42;exact Calls.quiet_of_same (zgi t _ h1 h6)));go_wp2;go_ret;exact⟨zn0 (za7 rfl),below_drewN (by go_grown) _⟩
 ·go_enter Tryz.func138,Tryz.ntmps138;go_wp2;go_quiet ((go_at_call 42;exact Calls.quiet_of_same (zgi t _ h1 h6)));go_wp2;go_ret;exact⟨zn0 (za7 rfl),below_drewN (by go_grown) _⟩
theorem zlF(t a i:Int)(w:World)(h1:1<=t)(h6:t<=6)(ha:a=1\/a=2)(i1:1<=i)(i6:i<=6):Calls Tryz.prog 138 #[.agg #[.int .i64 t,.int .i64 a,.int .i64 i]] w fun e w'=>e=.returned (.string ⟨(zfz (t,a,i)).toArray⟩)/\Below w.heap.size w w':=by
 rcases ha with rfl | rfl <;> rcases(show i=1\/i=2\/i=3\/i=4\/i=5\/i=6 by omega)with rfl | rfl | rfl | rfl | rfl | rfl
 all_goals
  go_enter Tryz.func138,Tryz.ntmps138;go_wp2;go_quiet ((go_at_call 42;exact Calls.quiet_of_same (zgi t _ h1 h6)));go_wp2;go_ret;exact⟨zn0 (za7 rfl),below_drewN (by go_grown) _⟩
theorem printOp_any(o:Op3)(w:World)(ho:isOpB o=true):Calls Tryz.prog 138 #[.agg #[.int .i64 o.1,.int .i64 o.2.1,.int .i64 o.2.2]] w fun e w'=>e=.returned (.string ⟨(zfz o).toArray⟩)/\Below w.heap.size w w':=by
 obtain⟨t,a,i⟩:=o;simp[isOpB,zaM]at ho;obtain⟨⟨⟨⟨h1,h2⟩,h3⟩,h4⟩,h5⟩:=ho;by_cases he:a=3\/a=4
 ·rw[if_pos he]at h5;subst h5;exact zoz t a w (by omega) (by omega) he
 ·rw[if_neg he]at h5;exact zlF t a i w (by omega) (by omega) (by omega) h5.1 h5.2
end Go.Proofs.YthlhgiihngcobaaGreatDoor
namespace Go.Proofs.YthlhgiihngcobaaGreatDoor
def zpG:Int->List UInt8->Option Int
 | n,[]=>some n
 | n,c::r=>if c<48\/57<c then none else zpG (min (10*n+(c.toNat-48:Int)) 7) r
def zbm:List UInt8->Option Int
 | []=>none
 | c::r=>if r≠[]/\c=48 then none else zpG 0 (c::r)
def zsK(c:UInt8):Int:=Lib.indexByte [97,98,99,100,101,102] c+1
def zcr(c:UInt8):Int:=Lib.indexByte [114,119,99,97] c+1
def zbW(l:List UInt8):Int :=
 match l with
 | [x,c,y]=>if x=40/\y=41 then zsK c else 0
 | _=>0
def ze2(a:Int)(r:List UInt8):Option Op3 :=
 if zaM a then(zbm r).map fun t=>(t,a,0)
 else if zbW (r.drop (r.length-3))=0 then none
 else(zbm (r.take (r.length-3))).map fun t=>(t,a,zbW (r.drop (r.length-3)))
def zed:List UInt8->Option Op3
 | []=>none
 | c::r=>if zcr c=0 then none else ze2 (zcr c) r
def ze4:List UInt8->List UInt8 × Option (List UInt8)
 | []=>([],none)
 | c::r=>if c=32 then([],some r)else(c::(ze4 r).1,(ze4 r).2)
def rdW:Nat->List UInt8->Option (List Op3)
 | 0,_=>none
 | n+1,l=>match (ze4 l).2 with
   | none=>(zed (ze4 l).1).map fun o=>[o]
   | some r=>match zed (ze4 l).1 with
     | none=>none
     | some o=>(rdW n r).map fun x=>o::x
def zbT(l:List UInt8):Option (List Op3):=if l=[]then some []else rdW (l.length+1) l
theorem zmL{l:List UInt8}(h:(ze4 l).2=none):(ze4 l).1=l/\(32:UInt8) ∉ l:=by
 induction l with
 | nil=>simp[ze4]
 | cons c r ih =>
   unfold ze4 at h ⊢;by_cases hc:c=32
   ·rw[if_pos hc]at h;simp at h
   ·rw[if_neg hc]at h ⊢;obtain⟨h1,h2⟩:=ih h;exact⟨by simp[h1],by simp[h2];exact fun e=>hc e.symm⟩
theorem zf0{l r:List UInt8}(h:(ze4 l).2=some r):l=(ze4 l).1++32::r/\(32:UInt8) ∉ (ze4 l).1:=by
 induction l with
 | nil=>simp[ze4]at h
 | cons c t ih =>
   unfold ze4 at h ⊢;by_cases hc:c=32
   ·rw[if_pos hc]at h ⊢;simp at h;simp[hc,h]
   ·rw[if_neg hc]at h ⊢;obtain⟨h1,h2⟩:=ih h;exact⟨by simp[<-h1],by simp[h2];exact fun e=>hc e.symm⟩
theorem ziF(c:UInt8)(r:List UInt8):zbm (c::r)=if r≠[]/\c=48 then none else zpG 0 (c::r):=rfl
end Go.Proofs.YthlhgiihngcobaaGreatDoor
namespace Go.Proofs.YthlhgiihngcobaaGreatDoor
def zbl(h:List Op3)(t:Int)(i:Nat):Int:=zgc (h.take i) t
theorem zfS{h:List Op3}(hc:zgK h){i j:Nat}(hij:i<j)(hj:j<h.length)(he:zaM (opAt h i).2.1=true):(opAt h i).1≠(opAt h j).1:=fun e=>by have h1:=List.pairwise_iff_getElem.1 hc i j (by omega) hj hij;rw[zcS (show i<h.length by omega),zcS hj]at e;rw[zcS (show i<h.length by omega)]at he;exact h1 ⟨e,he⟩
theorem zk0{o:Op3}{r:List Op3}{t:Int}(h:o.1=t/\3<=o.2.1):zgc (o::r) t=o.2.1:=if_pos h
theorem zo2{o:Op3}{r:List Op3}{t:Int}(h:¬(o.1=t/\3<=o.2.1)):zgc (o::r) t=zgc r t:=if_neg h
theorem zvG(l m:List Op3)(t:Int):zgc (l++m) t=if zgc l t=0 then zgc m t else zgc l t:=by
 induction l with
 | nil=>rfl
 | cons o r ih =>
   rw[List.cons_append];by_cases hc:o.1=t/\3<=o.2.1
   ·rw[zk0 hc,zk0 hc,if_neg (by omega)]
   ·rw[zo2 hc,zo2 hc,ih]
theorem endBy_zero(h:List Op3)(t:Int):zbl h t 0=0:=by simp[zbl,zgc]
theorem endBy_succ{h:List Op3}{i:Nat}(hi:i<h.length)(t:Int):zbl h t (i+1)=if zbl h t i=0 then(if(opAt h i).1=t/\3<=(opAt h i).2.1 then(opAt h i).2.1 else 0)else zbl h t i:=by unfold zbl;rw[List.take_succ_eq_append_getElem hi,zvG,zcS hi];simp[zgc]
theorem zcs{h:List Op3}(t:Int):∀ {i:Nat},i<=h.length->zbl h t i≠0->∃k,k<i/\(opAt h k).1=t/\3<=(opAt h k).2.1/\(opAt h k).2.1=zbl h t i:=by
 intro i
 induction i with
 | zero=>intro _ h0;exact absurd (endBy_zero h t) h0
 | succ i ih =>
   intro hi h0;rw[endBy_succ (by omega)]at h0 ⊢;by_cases hz:zbl h t i=0
   ·rw[if_pos hz]at h0 ⊢;by_cases hc:(opAt h i).1=t/\3<=(opAt h i).2.1
    ·rw[if_pos hc];exact⟨i,by omega,hc.1,hc.2,rfl⟩
    ·rw[if_neg hc]at h0;exact absurd rfl h0
   ·rw[if_neg hz]at h0 ⊢;obtain⟨k,k1,k2⟩:=ih (by omega) hz;exact⟨k,by omega,k2⟩
theorem zki{h:List Op3}(hc:zgK h)(hop:∀o∈h,isOpB o=true){t:Int}{k:Nat}:∀ {i:Nat},i<=h.length->k<i->(opAt h k).1=t->3<=(opAt h k).2.1->zbl h t i=(opAt h k).2.1:=by
 intro i
 induction i with
 | zero=>intro _ h;omega
 | succ i ih =>
   intro hi hk ht he;rw[endBy_succ (by omega)];by_cases hz:zbl h t i=0
   ·rw[if_pos hz];rcases Nat.lt_or_ge k i with e | e
    ·rw[ih (by omega) e ht he]at hz;omega
    ·rw[show k=i by omega]at ht he ⊢;rw[if_pos ⟨ht,he⟩]
   ·rw[if_neg hz];rcases Nat.lt_or_ge k i with e | e
    ·exact ih (by omega) e ht he
    ·obtain⟨m,m1,m2,m3,_⟩:=zcs t (show i<=h.length by omega) hz;have hem:zaM (opAt h m).2.1=true:=by rw[zeq (hop _ (zal (show m<h.length by omega)))];simpa using m3
     exact absurd (by rw[m2,ht]) (zfS hc (show m<k by omega) (by omega) hem)
theorem endBy_kind{h:List Op3}(hop:∀o∈h,isOpB o=true)(t:Int){i:Nat}(hi:i<=h.length):zbl h t i=0\/zbl h t i=3\/zbl h t i=4:=by
 by_cases h0:zbl h t i=0
 ·exact .inl h0
 ·obtain⟨k,k1,_,k3,k4⟩:=zcs t hi h0;have:=hop _ (zal (show k<h.length by omega));simp[isOpB]at this;omega
def fromTo(h:List Op3)(x:Int)(i:Nat):Nat->Int
 | 0=>0
 | k+1=>if(opAt h k).2.1=2/\(opAt h k).2.2=x/\zbl h (opAt h k).1 i≠4 then(opAt h k).1 else fromTo h x i k
def zbk(h:List Op3)(i:Nat):Int:=fromTo h (opAt h i).2.2 i i
theorem zm8{h:List Op3}{x:Int}{i:Nat}:∀ {k:Nat},fromTo h x i k≠0->∃m,m<k/\(opAt h m).2.1=2/\(opAt h m).2.2=x/\zbl h (opAt h m).1 i≠4/\(opAt h m).1=fromTo h x i k:=by
 intro k
 induction k with
 | zero=>intro h0;exact absurd rfl h0
 | succ k ih =>
   intro h0;rw[fromTo]at h0 ⊢;by_cases hc:(opAt h k).2.1=2/\(opAt h k).2.2=x/\zbl h (opAt h k).1 i≠4
   ·rw[if_pos hc];exact⟨k,by omega,hc.1,hc.2.1,hc.2.2,rfl⟩
   ·rw[if_neg hc]at h0 ⊢;obtain⟨m,m1,m2⟩:=ih h0;exact⟨m,by omega,m2⟩
def zyR(h:List Op3)(i:Nat)(what:Int)(k:Nat):Bool:=(List.range k).any fun m=>(opAt h m).2.1 == what && ((opAt h m).2.2 == (opAt h i).2.2 && ((opAt h m).1 != (opAt h i).1 && zbl h (opAt h m).1 i == 0))
def zfd(h:List Op3)(i:Nat)(what:Int):Bool:=zyR h i what i
theorem zdf{h:List Op3}{i:Nat}{what:Int}:zfd h i what=true↔∃m,m<i/\(opAt h m).2.1=what/\(opAt h m).2.2=(opAt h i).2.2/\(opAt h m).1≠(opAt h i).1/\zbl h (opAt h m).1 i=0:=by simp[zfd,zyR]
def whenTo(h:List Op3)(t:Int):Nat->Int
 | 0=>-1
 | k+1=>if whenTo h t k=-1 then(if(opAt h k).1=t/\(opAt h k).2.1=3 then k else -1)else whenTo h t k
def zdL(h:List Op3)(t:Int):Int:=whenTo h t h.length
theorem zcH{h:List Op3}{t:Int}:∀ {k:Nat},whenTo h t k≠-1->∃m:Nat,m<k/\whenTo h t k=m/\(opAt h m).1=t/\(opAt h m).2.1=3:=by
 intro k
 induction k with
 | zero=>intro h0;exact absurd rfl h0
 | succ k ih =>
   intro h0;rw[whenTo]at h0 ⊢;by_cases hz:whenTo h t k=-1
   ·rw[if_pos hz]at h0 ⊢;by_cases hc:(opAt h k).1=t/\(opAt h k).2.1=3
    ·rw[if_pos hc];exact⟨k,by omega,rfl,hc.1,hc.2⟩
    ·rw[if_neg hc]at h0;exact absurd rfl h0
   ·rw[if_neg hz]at h0 ⊢;obtain⟨m,m1,m2⟩:=ih hz;exact⟨m,by omega,m2⟩
theorem zq0{h:List Op3}{t:Int}{m:Nat}(h1:(opAt h m).1=t)(h2:(opAt h m).2.1=3):∀ {k:Nat},m<k->whenTo h t k≠-1/\whenTo h t k<=m:=by
 intro k
 induction k with
 | zero=>intro h;omega
 | succ k ih =>
   intro hk;rw[whenTo];by_cases hz:whenTo h t k=-1
   ·rw[if_pos hz];rcases Nat.lt_or_ge m k with e | e
    ·exact absurd hz (ih e).1
    ·rw[show m=k by omega]at h1 h2 ⊢;rw[if_pos ⟨h1,h2⟩];omega
   ·rw[if_neg hz];rcases Nat.lt_or_ge m k with e | e
    ·exact ih e
    ·obtain⟨q,q1,q2,_⟩:=zcH hz;exact⟨hz,by omega⟩
def recAt(h:List Op3)(i:Nat):Bool:=!((opAt h i).2.1 == 1 && (zbk h i != 0 && (zbk h i != (opAt h i).1 && (decide (0<=zdL h (opAt h i).1) && (decide (zdL h (zbk h i)<0) || decide (zdL h (opAt h i).1<zdL h (zbk h i)))))))
def cauAt(h:List Op3)(i:Nat):Bool:=!((opAt h i).2.1 == 1 && (zbk h i != 0 && (zbk h i != (opAt h i).1 && zbl h (zbk h i) i != 3)))
def strAt(h:List Op3)(i:Nat):Bool:=!(decide ((opAt h i).2.1<=2) && zfd h i 2)
def rigAt(h:List Op3)(i:Nat):Bool:=!(decide ((opAt h i).2.1<=2) && (zfd h i 2 || ((opAt h i).2.1 == 2 && zfd h i 1)))
def zwB(h:List Op3):Bool:=(List.range h.length).all (recAt h)
def zxz(h:List Op3):Bool:=(List.range h.length).all (cauAt h)
def zw1(h:List Op3):Bool:=(List.range h.length).all (strAt h)
def zyd(h:List Op3):Bool:=(List.range h.length).all (rigAt h)
theorem zpP{p:Nat->Bool}{n:Nat}:(List.range n).all p=true↔∀i,i<n->p i=true:=by simp
theorem zsj{h:List Op3}{n k:Nat}(hk:k<n):opAt (h.take n) k=opAt h k:=by simp[opAt,List.getD,hk]
end Go.Proofs.YthlhgiihngcobaaGreatDoor
