/-
  PROVED HERE: lanelaw3.RunOrders returns true, whatever the numbers, over whatever run.Run answers, if it orders the; history.printOp writes an op that is right as its text; plain facts on texts and ops, with no word of the program; plain facts, with no word of the program.
  Conditions: none but those that each theorem's own premises say.
-/
import Derived.Test.YthlhgiihngcobaaGreatDoorMgaf
import Derived.Test.YthlhgiihngcobaaGreatDoorMgak
import Derived.Test.YthlhgiihngcobaaGreatDoorMgah
import Derived.Deep.Cut
import Derived.Laws.Concat
import Derived.Lib.Strings
import Derived.Test.YthlhgiihngcobaaGreatDoorMgad
import Derived.Test.YthlhgiihngcobaaGreatDoorMgag
import Derived.Deep.QuietTactic
import Derived.BigQuiet
import Derived.WalkSmall
import Derived.Test.YthlhgiihngcobaaGreatDoorMgai
import Derived.Test.YthlhgiihngcobaaGreatDoorMgaj
set_option maxHeartbeats 32000000
set_option maxRecDepth 100000
namespace Go.Proofs.YthlhgiihngcobaaGreatDoor
open Go.RowKit Go.PlainAid
theorem zxa{P:List Int->Prop}(h0:P [])(h1:∀r d,P r->P (r++[d]))(l:List Int):P l:=by
 rw[<-List.reverse_reverse l]
 induction l.reverse with
 | nil=>exact h0
 | cons d r ih=>rw[List.reverse_cons];exact h1 _ d ih
end Go.Proofs.YthlhgiihngcobaaGreatDoor
namespace Go.Proofs.YthlhgiihngcobaaGreatDoor
open Go.RowKit
def zB8(a:Int):UInt8:=if a=1 then 114 else if a=2 then 119 else if a=3 then 99 else 97
def zfw(o:Op3):List UInt8:=zB8 o.2.1::zAM o.1::(if zaO o.2.1 then[]else[40,(96+o.2.2.toNat).toUInt8,41])
def zkT:List Op3->List UInt8
 | []=>[]
 | o::r=>zfw o++r.flatMap fun x=>32::zfw x
theorem zuj(l:List Op3)(o:Op3)(h:l≠[]):zkT (l++[o])=zkT l++32::zfw o:=by
 cases l with
 | nil=>exact absurd rfl h
 | cons a r=>simp[zkT]
theorem zfV(o:Op3):(zfw o).length<=5/\2<=(zfw o).length:=by unfold zfw;split <;> simp
theorem zpY(l:List Op3):(zkT l).length<=6*l.length:=by
 have h:∀r:List Op3,(r.flatMap fun x=>32::zfw x).length<=6*r.length:=by
  intro r
  induction r with
  | nil=>simp
  | cons a r ih=>have:=(zfV a).1;simp only[List.flatMap_cons,List.length_append,List.length_cons];omega
 cases l with
 | nil=>simp[zkT]
 | cons a r=>have:=(zfV a).1;have:=h r;simp only[zkT,List.length_append,List.length_cons];omega
theorem znw{s u:ByteArray}(h:s=u):Ending.returned (.string s)=.returned (.string u):=by rw[h]
theorem znt(t a:Int)(w:World)(h1:1<=t)(h6:t<=6)(ha:a=3\/a=4):Calls Tryz.prog 138 #[.agg #[.int .i64 t,.int .i64 a,.int .i64 0]] w fun e w'=>e=.returned (.string ⟨(zfw (t,a,0)).toArray⟩)/\Below w.heap.size w w':=by
 rcases ha with rfl | rfl
 ·go_enter Tryz.func138,Tryz.ntmps138;go_wp2;go_quiet ((go_at_call 42;exact Calls.quiet_of_same (zgt t _ h1 h6)));go_wp2;go_ret;exact⟨znw (zba rfl),below_drewN (by go_grown) _⟩
 ·go_enter Tryz.func138,Tryz.ntmps138;go_wp2;go_quiet ((go_at_call 42;exact Calls.quiet_of_same (zgt t _ h1 h6)));go_wp2;go_ret;exact⟨znw (zba rfl),below_drewN (by go_grown) _⟩
theorem zmM(t a i:Int)(w:World)(h1:1<=t)(h6:t<=6)(ha:a=1\/a=2)(i1:1<=i)(i6:i<=6):Calls Tryz.prog 138 #[.agg #[.int .i64 t,.int .i64 a,.int .i64 i]] w fun e w'=>e=.returned (.string ⟨(zfw (t,a,i)).toArray⟩)/\Below w.heap.size w w':=by
 rcases ha with rfl | rfl <;> rcases(show i=1\/i=2\/i=3\/i=4\/i=5\/i=6 by omega)with rfl | rfl | rfl | rfl | rfl | rfl
 all_goals
  go_enter Tryz.func138,Tryz.ntmps138;go_wp2;go_quiet ((go_at_call 42;exact Calls.quiet_of_same (zgt t _ h1 h6)));go_wp2;go_ret;exact⟨znw (zba rfl),below_drewN (by go_grown) _⟩
theorem printOp_any(o:Op3)(w:World)(ho:isOpB o=true):Calls Tryz.prog 138 #[.agg #[.int .i64 o.1,.int .i64 o.2.1,.int .i64 o.2.2]] w fun e w'=>e=.returned (.string ⟨(zfw o).toArray⟩)/\Below w.heap.size w w':=by
 obtain⟨t,a,i⟩:=o;simp[isOpB,zaO]at ho;obtain⟨⟨⟨⟨h1,h2⟩,h3⟩,h4⟩,h5⟩:=ho;by_cases he:a=3\/a=4
 ·rw[if_pos he]at h5;subst h5;exact znt t a w (by omega) (by omega) he
 ·rw[if_neg he]at h5;exact zmM t a i w (by omega) (by omega) (by omega) h5.1 h5.2
end Go.Proofs.YthlhgiihngcobaaGreatDoor
namespace Go.Proofs.YthlhgiihngcobaaGreatDoor
def zpE:Int->List UInt8->Option Int
 | n,[]=>some n
 | n,c::r=>if c<48\/57<c then none else zpE (min (10*n+(c.toNat-48:Int)) 7) r
def zbn:List UInt8->Option Int
 | []=>none
 | c::r=>if r≠[]/\c=48 then none else zpE 0 (c::r)
def zvJ(c:UInt8):Int:=Lib.indexByte [97,98,99,100,101,102] c+1
def zcs(c:UInt8):Int:=Lib.indexByte [114,119,99,97] c+1
def zb8(l:List UInt8):Int :=
 match l with
 | [x,c,y]=>if x=40/\y=41 then zvJ c else 0
 | _=>0
def ze0(a:Int)(r:List UInt8):Option Op3 :=
 if zaO a then(zbn r).map fun t=>(t,a,0)
 else if zb8 (r.drop (r.length-3))=0 then none
 else(zbn (r.take (r.length-3))).map fun t=>(t,a,zb8 (r.drop (r.length-3)))
def zej:List UInt8->Option Op3
 | []=>none
 | c::r=>if zcs c=0 then none else ze0 (zcs c) r
def ze4:List UInt8->List UInt8 × Option (List UInt8)
 | []=>([],none)
 | c::r=>if c=32 then([],some r)else(c::(ze4 r).1,(ze4 r).2)
def rdW:Nat->List UInt8->Option (List Op3)
 | 0,_=>none
 | n+1,l=>match (ze4 l).2 with
   | none=>(zej (ze4 l).1).map fun o=>[o]
   | some r=>match zej (ze4 l).1 with
     | none=>none
     | some o=>(rdW n r).map fun x=>o::x
def zbS(l:List UInt8):Option (List Op3):=if l=[]then some []else rdW (l.length+1) l
theorem zlw{l:List UInt8}(h:(ze4 l).2=none):(ze4 l).1=l/\(32:UInt8) ∉ l:=by
 induction l with
 | nil=>simp[ze4]
 | cons c r ih =>
   unfold ze4 at h ⊢;by_cases hc:c=32
   ·rw[if_pos hc]at h;simp at h
   ·rw[if_neg hc]at h ⊢;obtain⟨h1,h2⟩:=ih h;exact⟨by simp[h1],by simp[h2];exact fun e=>hc e.symm⟩
theorem zfN{l r:List UInt8}(h:(ze4 l).2=some r):l=(ze4 l).1++32::r/\(32:UInt8) ∉ (ze4 l).1:=by
 induction l with
 | nil=>simp[ze4]at h
 | cons c t ih =>
   unfold ze4 at h ⊢;by_cases hc:c=32
   ·rw[if_pos hc]at h ⊢;simp at h;simp[hc,h]
   ·rw[if_neg hc]at h ⊢;obtain⟨h1,h2⟩:=ih h;exact⟨by simp[<-h1],by simp[h2];exact fun e=>hc e.symm⟩
theorem zh8(c:UInt8)(r:List UInt8):zbn (c::r)=if r≠[]/\c=48 then none else zpE 0 (c::r):=rfl
end Go.Proofs.YthlhgiihngcobaaGreatDoor
namespace Go.Proofs.YthlhgiihngcobaaGreatDoor
def zbo(h:List Op3)(t:Int)(i:Nat):Int:=zgI (h.take i) t
theorem zfT{h:List Op3}(hc:zgM h){i j:Nat}(hij:i<j)(hj:j<h.length)(he:zaO (opAt h i).2.1=true):(opAt h i).1≠(opAt h j).1:=fun e=>by have h1:=List.pairwise_iff_getElem.1 hc i j (by omega) hj hij;rw[zc1 (show i<h.length by omega),zc1 hj]at e;rw[zc1 (show i<h.length by omega)]at he;exact h1 ⟨e,he⟩
theorem zlC{o:Op3}{r:List Op3}{t:Int}(h:o.1=t/\3<=o.2.1):zgI (o::r) t=o.2.1:=if_pos h
theorem zpP{o:Op3}{r:List Op3}{t:Int}(h:¬(o.1=t/\3<=o.2.1)):zgI (o::r) t=zgI r t:=if_neg h
theorem zvt(l m:List Op3)(t:Int):zgI (l++m) t=if zgI l t=0 then zgI m t else zgI l t:=by
 induction l with
 | nil=>rfl
 | cons o r ih =>
   rw[List.cons_append];by_cases hc:o.1=t/\3<=o.2.1
   ·rw[zlC hc,zlC hc,if_neg (by omega)]
   ·rw[zpP hc,zpP hc,ih]
theorem endBy_zero(h:List Op3)(t:Int):zbo h t 0=0:=by simp[zbo,zgI]
theorem endBy_succ{h:List Op3}{i:Nat}(hi:i<h.length)(t:Int):zbo h t (i+1)=if zbo h t i=0 then(if(opAt h i).1=t/\3<=(opAt h i).2.1 then(opAt h i).2.1 else 0)else zbo h t i:=by unfold zbo;rw[List.take_succ_eq_append_getElem hi,zvt,zc1 hi];simp[zgI]
theorem zcv{h:List Op3}(t:Int):∀ {i:Nat},i<=h.length->zbo h t i≠0->∃k,k<i/\(opAt h k).1=t/\3<=(opAt h k).2.1/\(opAt h k).2.1=zbo h t i:=by
 intro i
 induction i with
 | zero=>intro _ h0;exact absurd (endBy_zero h t) h0
 | succ i ih =>
   intro hi h0;rw[endBy_succ (by omega)]at h0 ⊢;by_cases hz:zbo h t i=0
   ·rw[if_pos hz]at h0 ⊢;by_cases hc:(opAt h i).1=t/\3<=(opAt h i).2.1
    ·rw[if_pos hc];exact⟨i,by omega,hc.1,hc.2,rfl⟩
    ·rw[if_neg hc]at h0;exact absurd rfl h0
   ·rw[if_neg hz]at h0 ⊢;obtain⟨k,k1,k2⟩:=ih (by omega) hz;exact⟨k,by omega,k2⟩
theorem zkD{h:List Op3}(hc:zgM h)(hop:∀o∈h,isOpB o=true){t:Int}{k:Nat}:∀ {i:Nat},i<=h.length->k<i->(opAt h k).1=t->3<=(opAt h k).2.1->zbo h t i=(opAt h k).2.1:=by
 intro i
 induction i with
 | zero=>intro _ h;omega
 | succ i ih =>
   intro hi hk ht he;rw[endBy_succ (by omega)];by_cases hz:zbo h t i=0
   ·rw[if_pos hz];rcases Nat.lt_or_ge k i with e | e
    ·rw[ih (by omega) e ht he]at hz;omega
    ·rw[show k=i by omega]at ht he ⊢;rw[if_pos ⟨ht,he⟩]
   ·rw[if_neg hz];rcases Nat.lt_or_ge k i with e | e
    ·exact ih (by omega) e ht he
    ·obtain⟨m,m1,m2,m3,_⟩:=zcv t (show i<=h.length by omega) hz;have hem:zaO (opAt h m).2.1=true:=by rw[zdT (hop _ (zam (show m<h.length by omega)))];simpa using m3
     exact absurd (by rw[m2,ht]) (zfT hc (show m<k by omega) (by omega) hem)
theorem endBy_kind{h:List Op3}(hop:∀o∈h,isOpB o=true)(t:Int){i:Nat}(hi:i<=h.length):zbo h t i=0\/zbo h t i=3\/zbo h t i=4:=by
 by_cases h0:zbo h t i=0
 ·exact .inl h0
 ·obtain⟨k,k1,_,k3,k4⟩:=zcv t hi h0;have:=hop _ (zam (show k<h.length by omega));simp[isOpB]at this;omega
def fromTo(h:List Op3)(x:Int)(i:Nat):Nat->Int
 | 0=>0
 | k+1=>if(opAt h k).2.1=2/\(opAt h k).2.2=x/\zbo h (opAt h k).1 i≠4 then(opAt h k).1 else fromTo h x i k
def zbp(h:List Op3)(i:Nat):Int:=fromTo h (opAt h i).2.2 i i
theorem znZ{h:List Op3}{x:Int}{i:Nat}:∀ {k:Nat},fromTo h x i k≠0->∃m,m<k/\(opAt h m).2.1=2/\(opAt h m).2.2=x/\zbo h (opAt h m).1 i≠4/\(opAt h m).1=fromTo h x i k:=by
 intro k
 induction k with
 | zero=>intro h0;exact absurd rfl h0
 | succ k ih =>
   intro h0;rw[fromTo]at h0 ⊢;by_cases hc:(opAt h k).2.1=2/\(opAt h k).2.2=x/\zbo h (opAt h k).1 i≠4
   ·rw[if_pos hc];exact⟨k,by omega,hc.1,hc.2.1,hc.2.2,rfl⟩
   ·rw[if_neg hc]at h0 ⊢;obtain⟨m,m1,m2⟩:=ih h0;exact⟨m,by omega,m2⟩
def zyG(h:List Op3)(i:Nat)(what:Int)(k:Nat):Bool:=(List.range k).any fun m=>(opAt h m).2.1 == what && ((opAt h m).2.2 == (opAt h i).2.2 && ((opAt h m).1 != (opAt h i).1 && zbo h (opAt h m).1 i == 0))
def zff(h:List Op3)(i:Nat)(what:Int):Bool:=zyG h i what i
theorem zdh{h:List Op3}{i:Nat}{what:Int}:zff h i what=true↔∃m,m<i/\(opAt h m).2.1=what/\(opAt h m).2.2=(opAt h i).2.2/\(opAt h m).1≠(opAt h i).1/\zbo h (opAt h m).1 i=0:=by simp[zff,zyG]
def whenTo(h:List Op3)(t:Int):Nat->Int
 | 0=>-1
 | k+1=>if whenTo h t k=-1 then(if(opAt h k).1=t/\(opAt h k).2.1=3 then k else -1)else whenTo h t k
def zdR(h:List Op3)(t:Int):Int:=whenTo h t h.length
theorem zcG{h:List Op3}{t:Int}:∀ {k:Nat},whenTo h t k≠-1->∃m:Nat,m<k/\whenTo h t k=m/\(opAt h m).1=t/\(opAt h m).2.1=3:=by
 intro k
 induction k with
 | zero=>intro h0;exact absurd rfl h0
 | succ k ih =>
   intro h0;rw[whenTo]at h0 ⊢;by_cases hz:whenTo h t k=-1
   ·rw[if_pos hz]at h0 ⊢;by_cases hc:(opAt h k).1=t/\(opAt h k).2.1=3
    ·rw[if_pos hc];exact⟨k,by omega,rfl,hc.1,hc.2⟩
    ·rw[if_neg hc]at h0;exact absurd rfl h0
   ·rw[if_neg hz]at h0 ⊢;obtain⟨m,m1,m2⟩:=ih hz;exact⟨m,by omega,m2⟩
theorem zqk{h:List Op3}{t:Int}{m:Nat}(h1:(opAt h m).1=t)(h2:(opAt h m).2.1=3):∀ {k:Nat},m<k->whenTo h t k≠-1/\whenTo h t k<=m:=by
 intro k
 induction k with
 | zero=>intro h;omega
 | succ k ih =>
   intro hk;rw[whenTo];by_cases hz:whenTo h t k=-1
   ·rw[if_pos hz];rcases Nat.lt_or_ge m k with e | e
    ·exact absurd hz (ih e).1
    ·rw[show m=k by omega]at h1 h2 ⊢;rw[if_pos ⟨h1,h2⟩];omega
   ·rw[if_neg hz];rcases Nat.lt_or_ge m k with e | e
    ·exact ih e
    ·obtain⟨q,q1,q2,_⟩:=zcG hz;exact⟨hz,by omega⟩
def recAt(h:List Op3)(i:Nat):Bool:=!((opAt h i).2.1 == 1 && (zbp h i != 0 && (zbp h i != (opAt h i).1 && (decide (0<=zdR h (opAt h i).1) && (decide (zdR h (zbp h i)<0) || decide (zdR h (opAt h i).1<zdR h (zbp h i)))))))
def cauAt(h:List Op3)(i:Nat):Bool:=!((opAt h i).2.1 == 1 && (zbp h i != 0 && (zbp h i != (opAt h i).1 && zbo h (zbp h i) i != 3)))
def strAt(h:List Op3)(i:Nat):Bool:=!(decide ((opAt h i).2.1<=2) && zff h i 2)
def rigAt(h:List Op3)(i:Nat):Bool:=!(decide ((opAt h i).2.1<=2) && (zff h i 2 || ((opAt h i).2.1 == 2 && zff h i 1)))
def zxd(h:List Op3):Bool:=(List.range h.length).all (recAt h)
def zw5(h:List Op3):Bool:=(List.range h.length).all (cauAt h)
def zxh(h:List Op3):Bool:=(List.range h.length).all (strAt h)
def zyh(h:List Op3):Bool:=(List.range h.length).all (rigAt h)
theorem zoT{p:Nat->Bool}{n:Nat}:(List.range n).all p=true↔∀i,i<n->p i=true:=by simp
theorem zu6{h:List Op3}{n k:Nat}(hk:k<n):opAt (h.take n) k=opAt h k:=by simp[opAt,List.getD,hk]
end Go.Proofs.YthlhgiihngcobaaGreatDoor
