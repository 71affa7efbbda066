/-
  PROVED HERE: history.printOp writes an op that is right as its text; plain facts on texts and ops, with no word of the program.
  Conditions: none but those that each theorem's own premises say.
-/
import Derived.Test.YthlhgiihngcobaaGreatDoorMgad
import Derived.Test.YthlhgiihngcobaaGreatDoorMgai
import Derived.Deep.QuietTactic
import Derived.BigQuiet
import Derived.WalkSmall
set_option maxHeartbeats 32000000
set_option maxRecDepth 100000
namespace Go.Proofs.YthlhgiihngcobaaGreatDoor
open Go.RowKit
def znN(a:Int):UInt8:=if a=1 then 114 else if a=2 then 119 else if a=3 then 99 else 97
def zdN(o:Op3):List UInt8:=znN o.2.1::zkU o.1::(if zax o.2.1 then[]else[40,(96+o.2.2.toNat).toUInt8,41])
def zdl:List Op3->List UInt8
 | []=>[]
 | o::r=>zdN o++r.flatMap fun x=>32::zdN x
theorem zf5(o:Op3):(zdN o).length<=5/\2<=(zdN o).length:=by unfold zdN;split <;> simp
end Go.Proofs.YthlhgiihngcobaaGreatDoor
namespace Go.Proofs.YthlhgiihngcobaaGreatDoor
def zhP:Int->List UInt8->Option Int
 | n,[]=>some n
 | n,c::r=>if c<48\/57<c then none else zhP (min (10*n+(c.toNat-48:Int)) 7) r
def zaB:List UInt8->Option Int
 | []=>none
 | c::r=>if r≠[]/\c=48 then none else zhP 0 (c::r)
def zkL(c:UInt8):Int:=Lib.indexByte [97,98,99,100,101,102] c+1
def zbf(c:UInt8):Int:=Lib.indexByte [114,119,99,97] c+1
def za1(l:List UInt8):Int :=
 match l with
 | [x,c,y]=>if x=40/\y=41 then zkL c else 0
 | _=>0
def zcD(a:Int)(r:List UInt8):Option Op3 :=
 if zax a then(zaB r).map fun t=>(t,a,0)
 else if za1 (r.drop (r.length-3))=0 then none
 else(zaB (r.take (r.length-3))).map fun t=>(t,a,za1 (r.drop (r.length-3)))
def zb5:List UInt8->Option Op3
 | []=>none
 | c::r=>if zbf c=0 then none else zcD (zbf c) r
def zb3:List UInt8->List UInt8 × Option (List UInt8)
 | []=>([],none)
 | c::r=>if c=32 then([],some r)else(c::(zb3 r).1,(zb3 r).2)
def rdW:Nat->List UInt8->Option (List Op3)
 | 0,_=>none
 | n+1,l=>match (zb3 l).2 with
   | none=>(zb5 (zb3 l).1).map fun o=>[o]
   | some r=>match zb5 (zb3 l).1 with
     | none=>none
     | some o=>(rdW n r).map fun x=>o::x
def zaL(l:List UInt8):Option (List Op3):=if l=[]then some []else rdW (l.length+1) l
theorem zgo{l:List UInt8}(h:(zb3 l).2=none):(zb3 l).1=l/\(32:UInt8) ∉ l:=by
 induction l with
 | nil=>simp[zb3]
 | cons c r ih =>
   unfold zb3 at h ⊢;by_cases hc:c=32
   ·rw[if_pos hc]at h;simp at h
   ·rw[if_neg hc]at h ⊢;obtain⟨h1,h2⟩:=ih h;exact⟨by simp[h1],by simp[h2];exact fun e=>hc e.symm⟩
theorem zda{l r:List UInt8}(h:(zb3 l).2=some r):l=(zb3 l).1++32::r/\(32:UInt8) ∉ (zb3 l).1:=by
 induction l with
 | nil=>simp[zb3]at h
 | cons c t ih =>
   unfold zb3 at h ⊢;by_cases hc:c=32
   ·rw[if_pos hc]at h ⊢;simp at h;simp[hc,h]
   ·rw[if_neg hc]at h ⊢;obtain⟨h1,h2⟩:=ih h;exact⟨by simp[<-h1],by simp[h2];exact fun e=>hc e.symm⟩
theorem zku{l:List UInt8}(h:(32:UInt8) ∉ l):zb3 l=(l,none):=by
 induction l with
 | nil=>rfl
 | cons c r ih =>have hc:c≠32:=fun e=>h (by simp[e]);unfold zb3;rw[if_neg hc,ih (fun hr=>h (List.mem_cons_of_mem _ hr))]
theorem zk6{u:List UInt8}(v:List UInt8)(h:(32:UInt8) ∉ u):zb3 (u++32::v)=(u,some v):=by
 induction u with
 | nil=>simp[zb3]
 | cons c r ih =>have hc:c≠32:=fun e=>h (by simp[e]);rw[List.cons_append];unfold zb3;rw[if_neg hc,ih (fun hr=>h (List.mem_cons_of_mem _ hr))]
theorem zg1(o:Op3)(h:isOpB o=true):(32:UInt8) ∉ zdN o:=by
 obtain⟨t,a,i⟩:=o;simp[isOpB,zax]at h;obtain⟨⟨⟨⟨h1,h2⟩,h3⟩,h4⟩,h5⟩:=h;rcases(show t=1\/t=2\/t=3\/t=4\/t=5\/t=6 by omega)with rfl | rfl | rfl | rfl | rfl | rfl <;>
 rcases(show a=1\/a=2\/a=3\/a=4 by omega)with rfl | rfl | rfl | rfl <;> simp at h5 <;>
 first
 | (subst h5;decide)
 | (rcases(show i=1\/i=2\/i=3\/i=4\/i=5\/i=6 by omega)with rfl | rfl | rfl | rfl | rfl | rfl <;> decide)
theorem ziJ(o:Op3)(h:isOpB o=true):zb5 (zdN o)=some o:=by
 obtain⟨t,a,i⟩:=o;simp[isOpB,zax]at h;obtain⟨⟨⟨⟨h1,h2⟩,h3⟩,h4⟩,h5⟩:=h;rcases(show t=1\/t=2\/t=3\/t=4\/t=5\/t=6 by omega)with rfl | rfl | rfl | rfl | rfl | rfl <;>
 rcases(show a=1\/a=2\/a=3\/a=4 by omega)with rfl | rfl | rfl | rfl <;> simp at h5 <;>
 first
 | (subst h5;decide)
 | (rcases(show i=1\/i=2\/i=3\/i=4\/i=5\/i=6 by omega)with rfl | rfl | rfl | rfl | rfl | rfl <;> decide)
theorem zeh(c:UInt8)(r:List UInt8):zaB (c::r)=if r≠[]/\c=48 then none else zhP 0 (c::r):=rfl
theorem zm8:∀(ds:List Op3) (n:Nat),(∀o∈ds,isOpB o=true)->ds≠[]->ds.length<=n->rdW n (zdl ds)=some ds:=by
 intro ds
 induction ds with
 | nil=>intro n _ h;exact absurd rfl h
 | cons o r ih =>
   intro n ho _ hn;cases n with
   | zero=>simp at hn
   | succ n =>
     have hob:=zg1 o (ho o (by simp));have hro:=ziJ o (ho o (by simp));cases r with
     | nil =>
       have e:zdl [o]=zdN o:=by simp[zdl]
       rw[e];unfold rdW;rw[zku hob];simp[hro]
     | cons a t =>
       have e:zdl (o::a::t)=zdN o++32::zdl (a::t):=by simp[zdl]
       rw[e];unfold rdW;rw[zk6 _ hob];simp only[hro];rw[ih n (fun x hx=>ho x (by simp[hx])) (by simp) (by simp at hn ⊢;omega)];rfl
theorem zh8(ds:List Op3):ds.length<=(zdl ds).length:=by
 have h:∀r:List Op3,r.length<=(r.flatMap fun x=>32::zdN x).length:=by
  intro r
  induction r with
  | nil=>simp
  | cons a r ih=>simp only[List.flatMap_cons,List.length_append,List.length_cons];omega
 cases ds with
 | nil=>simp
 | cons a r=>have:=(zf5 a).2;have:=h r;simp only[zdl,List.length_append,List.length_cons];omega
theorem zjy(ds:List Op3)(hc:∀o∈ds,isOpB o=true):zaL (zdl ds)=some ds:=by
 unfold zaL;cases ds with
 | nil=>rfl
 | cons a r =>
   have hne:zdl (a::r)≠[]:=by intro e;have:=(zf5 a).2;simp[zdl]at e;rw[e.1]at this;simp at this
   rw[if_neg hne];exact zm8 _ _ hc (by simp) (by have:=zh8 (a::r);omega)
end Go.Proofs.YthlhgiihngcobaaGreatDoor
