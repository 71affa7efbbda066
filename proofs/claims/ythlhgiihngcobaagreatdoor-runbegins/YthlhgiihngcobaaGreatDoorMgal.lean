/-
  PROVED HERE: lanelaw3.RunOrders returns true, whatever the numbers, over whatever run.Run answers, if it orders the; history.printOp writes an op that is right as its text; plain facts on texts and ops, with no word of the program; plain facts, with no word of the program.
  Conditions: none but those that each theorem's own premises say.
-/
import Derived.Test.YthlhgiihngcobaaGreatDoorMgaf
import Derived.Test.YthlhgiihngcobaaGreatDoorMgak
import Derived.Test.YthlhgiihngcobaaGreatDoorMgah
import Derived.Deep.Cut
import Derived.Laws.Concat
import Derived.Lib.Strings
import Derived.Test.YthlhgiihngcobaaGreatDoorMgad
import Derived.Test.YthlhgiihngcobaaGreatDoorMgag
import Derived.Deep.QuietTactic
import Derived.BigQuiet
import Derived.WalkSmall
import Derived.Test.YthlhgiihngcobaaGreatDoorMgai
import Derived.Test.YthlhgiihngcobaaGreatDoorMgaj
namespace Go.Proofs.YthlhgiihngcobaaGreatDoor
open Go.RowKit Go.PlainAid
theorem zyJ {P:List Int→Prop}(h0:P [])(h1:∀r d,P r→P(r++[d]))(l:List Int):P l:=by
 rw[←List.reverse_reverse l]
 induction l.reverse with
 | nil=>exact h0
 | cons d r ih=>rw[List.reverse_cons];exact h1 _ d ih
open Go.RowKit
def zC8(a:Int):UInt8:=if a=1 then 114 else if a=2 then 119 else if a=3 then 99 else 97
def zf9(o:Op3):List UInt8:=zC8 o.2.1::zBT o.1::(if zaS o.2.1 then[]else[40,(96+o.2.2.toNat).toUInt8,41])
def zlw:List Op3→List UInt8
 | []=>[]
 | o::r=>zf9 o++r.flatMap fun x=>32::zf9 x
theorem zuu(l:List Op3)(o:Op3)(h:l≠[]):zlw(l++[o])=zlw l++32::zf9 o:=by
 cases l with
 | nil=>exact absurd rfl h
 | cons a r=>simp[zlw]
theorem zgx(o:Op3):(zf9 o).length≤5∧2≤(zf9 o).length:=by
 unfold zf9;split <;> simp
theorem zqQ(l:List Op3):(zlw l).length≤6*l.length:=by
 have h:∀r:List Op3,(r.flatMap fun x=>32::zf9 x).length≤6*r.length:=by
  intro r
  induction r with
  | nil=>simp
  | cons a r ih=>have:=(zgx a).1;simp only[List.flatMap_cons,List.length_append,List.length_cons];omega
 cases l with
 | nil=>simp[zlw]
 | cons a r=>have:=(zgx a).1;have:=h r;simp only[zlw,List.length_append,List.length_cons];omega
theorem zpm {s u:ByteArray}(h:s=u):Ending.returned(.string s)=.returned(.string u):=by rw[h]
set_option maxHeartbeats 4000000 in
theorem znV(t a:Int)(w:World)(h1:1≤t)(h6:t≤6)(ha:a=3∨a=4) :
  Calls Tryz.prog 138 #[.agg #[.int .i64 t,.int .i64 a,.int .i64 0]]w fun e w'=>e=.returned(.string⟨(zf9(t,a,0)).toArray⟩)∧Below w.heap.size w w':=by
 rcases ha with rfl|rfl
 ·go_enter Tryz.func138,Tryz.ntmps138
  go_wp2
  go_quiet((go_at_call 42;exact Calls.quiet_of_same(zgJ t _ h1 h6)))
  go_wp2
  go_ret
  exact⟨zpm(zbd rfl),below_drewN(by go_grown)_⟩
 ·go_enter Tryz.func138,Tryz.ntmps138
  go_wp2
  go_quiet((go_at_call 42;exact Calls.quiet_of_same(zgJ t _ h1 h6)))
  go_wp2
  go_ret
  exact⟨zpm(zbd rfl),below_drewN(by go_grown)_⟩
set_option maxHeartbeats 8000000 in
theorem zlV(t a i:Int)(w:World)(h1:1≤t)(h6:t≤6)(ha:a=1∨a=2)(i1:1≤i)(i6:i≤6) :
  Calls Tryz.prog 138 #[.agg #[.int .i64 t,.int .i64 a,.int .i64 i]]w fun e w'=>e=.returned(.string⟨(zf9(t,a,i)).toArray⟩)∧Below w.heap.size w w':=by
 rcases ha with rfl|rfl <;> rcases(show i=1∨i=2∨i=3∨i=4∨i=5∨i=6 by omega)with rfl|rfl|rfl|rfl|rfl|rfl
 all_goals
  go_enter Tryz.func138,Tryz.ntmps138
  go_wp2
  go_quiet((go_at_call 42;exact Calls.quiet_of_same(zgJ t _ h1 h6)))
  go_wp2
  go_ret
  exact⟨zpm(zbd rfl),below_drewN(by go_grown)_⟩
theorem printOp_any(o:Op3)(w:World)(ho:isOpB o=true) :
  Calls Tryz.prog 138 #[.agg #[.int .i64 o.1,.int .i64 o.2.1,.int .i64 o.2.2]]w fun e w'=>e=.returned(.string⟨(zf9 o).toArray⟩)∧Below w.heap.size w w':=by
 obtain⟨t,a,i⟩:=o
 simp[isOpB,zaS]at ho
 obtain⟨⟨⟨⟨h1,h2⟩,h3⟩,h4⟩,h5⟩:=ho
 by_cases he:a=3∨a=4
 ·rw[if_pos he]at h5
  subst h5
  exact znV t a w(by omega)(by omega)he
 ·rw[if_neg he]at h5
  exact zlV t a i w(by omega)(by omega)(by omega)h5.1 h5.2
def zp2:Int→List UInt8→Option Int
 | n,[]=>some n
 | n,c::r=>if c<48∨57<c then none else zp2(min(10*n+(c.toNat-48:Int))7)r
def zbv:List UInt8→Option Int
 | []=>none
 | c::r=>if r≠[]∧c=48 then none else zp2 0(c::r)
def zt9(c:UInt8):Int:=Lib.indexByte [97,98,99,100,101,102]c+1
def zcA(c:UInt8):Int:=Lib.indexByte [114,119,99,97]c+1
def zca(l:List UInt8):Int :=
 match l with
 | [x,c,y]=>if x=40∧y=41 then zt9 c else 0
 | _=>0
def zfo(a:Int)(r:List UInt8):Option Op3 :=
 if zaS a then(zbv r).map fun t=>(t,a,0)
 else if zca(r.drop(r.length-3))=0 then none
 else(zbv(r.take(r.length-3))).map fun t=>(t,a,zca(r.drop(r.length-3)))
def zei:List UInt8→Option Op3
 | []=>none
 | c::r=>if zcA c=0 then none else zfo(zcA c)r
def zfm:List UInt8→List UInt8 × Option(List UInt8)
 | []=>([],none)
 | c::r=>if c=32 then([],some r)else(c::(zfm r).1,(zfm r).2)
def rdW:Nat→List UInt8→Option(List Op3)
 | 0,_=>none
 | n+1,l=>match(zfm l).2 with
   | none=>(zei(zfm l).1).map fun o=>[o]
   | some r=>match zei(zfm l).1 with
     | none=>none
     | some o=>(rdW n r).map fun x=>o::x
def zb4(l:List UInt8):Option(List Op3):=if l=[]then some []else rdW(l.length+1)l
theorem zmx {l:List UInt8}(h:(zfm l).2=none):(zfm l).1=l∧(32:UInt8) ∉ l:=by
 induction l with
 | nil=>simp[zfm]
 | cons c r ih =>
   unfold zfm at h ⊢
   by_cases hc:c=32
   ·rw[if_pos hc]at h;simp at h
   ·rw[if_neg hc]at h ⊢
    obtain⟨h1,h2⟩:=ih h
    exact⟨by simp[h1],by simp[h2];exact fun e=>hc e.symm⟩
theorem zfN {l r:List UInt8}(h:(zfm l).2=some r):l=(zfm l).1++32::r∧(32:UInt8) ∉ (zfm l).1:=by
 induction l with
 | nil=>simp[zfm]at h
 | cons c t ih =>
   unfold zfm at h ⊢
   by_cases hc:c=32
   ·rw[if_pos hc]at h ⊢
    simp at h
    simp[hc,h]
   ·rw[if_neg hc]at h ⊢
    obtain⟨h1,h2⟩:=ih h
    exact⟨by simp[←h1],by simp[h2];exact fun e=>hc e.symm⟩
theorem zjf(c:UInt8)(r:List UInt8):zbv(c::r)=if r≠[]∧c=48 then none else zp2 0(c::r):=rfl
def zbu(h:List Op3)(t:Int)(i:Nat):Int:=zgZ(h.take i)t
theorem zgi {h:List Op3}(hc:zho h) {i j:Nat}(hij:i<j)(hj:j<h.length)(he:zaS(opAt h i).2.1=true):(opAt h i).1≠(opAt h j).1:=fun e=>by
 have h1:=List.pairwise_iff_getElem.1 hc i j(by omega)hj hij
 rw[zdb(show i<h.length by omega),zdb hj]at e
 rw[zdb(show i<h.length by omega)]at he
 exact h1⟨e,he⟩
theorem zlY {o:Op3} {r:List Op3} {t:Int}(h:o.1=t∧3≤o.2.1):zgZ(o::r)t=o.2.1:=if_pos h
theorem zpK {o:Op3} {r:List Op3} {t:Int}(h:¬(o.1=t∧3≤o.2.1)):zgZ(o::r)t=zgZ r t:=if_neg h
theorem zu5(l m:List Op3)(t:Int):zgZ(l++m)t=if zgZ l t=0 then zgZ m t else zgZ l t:=by
 induction l with
 | nil=>rfl
 | cons o r ih =>
   rw[List.cons_append]
   by_cases hc:o.1=t∧3≤o.2.1
   ·rw[zlY hc,zlY hc,if_neg(by omega)]
   ·rw[zpK hc,zpK hc,ih]
theorem endBy_zero(h:List Op3)(t:Int):zbu h t 0=0:=by simp[zbu,zgZ]
theorem zjU {h:List Op3} {i:Nat}(hi:i<h.length)(t:Int):zbu h t(i+1)=if zbu h t i=0 then(if(opAt h i).1=t∧3≤(opAt h i).2.1 then(opAt h i).2.1 else 0)else zbu h t i:=by
 unfold zbu
 rw[List.take_succ_eq_append_getElem hi,zu5,zdb hi]
 simp[zgZ]
theorem zcG {h:List Op3}(t:Int):∀ {i:Nat},i≤h.length→zbu h t i≠0→∃k,k<i∧(opAt h k).1=t∧3≤(opAt h k).2.1∧(opAt h k).2.1=zbu h t i:=by
 intro i
 induction i with
 | zero=>intro _ h0;exact absurd(endBy_zero h t)h0
 | succ i ih =>
   intro hi h0
   rw[zjU(by omega)]at h0 ⊢
   by_cases hz:zbu h t i=0
   ·rw[if_pos hz]at h0 ⊢
    by_cases hc:(opAt h i).1=t∧3≤(opAt h i).2.1
    ·rw[if_pos hc];exact⟨i,by omega,hc.1,hc.2,rfl⟩
    ·rw[if_neg hc]at h0;exact absurd rfl h0
   ·rw[if_neg hz]at h0 ⊢
    obtain⟨k,k1,k2⟩:=ih(by omega)hz
    exact⟨k,by omega,k2⟩
theorem zlh {h:List Op3}(hc:zho h)(hop:∀o∈h,isOpB o=true) {t:Int} {k:Nat}:∀ {i:Nat},i≤h.length→k<i→(opAt h k).1=t→3≤(opAt h k).2.1→zbu h t i=(opAt h k).2.1:=by
 intro i
 induction i with
 | zero=>intro _ h;omega
 | succ i ih =>
   intro hi hk ht he
   rw[zjU(by omega)]
   by_cases hz:zbu h t i=0
   ·rw[if_pos hz]
    rcases Nat.lt_or_ge k i with e|e
    ·rw[ih(by omega)e ht he]at hz;omega
    ·rw[show k=i by omega]at ht he ⊢
     rw[if_pos⟨ht,he⟩]
   ·rw[if_neg hz]
    rcases Nat.lt_or_ge k i with e|e
    ·exact ih(by omega)e ht he
    ·obtain⟨m,m1,m2,m3,_⟩:=zcG t(show i≤h.length by omega)hz
     have hem:zaS(opAt h m).2.1=true:=by
      rw[zeH(hop _(zal(show m<h.length by omega)))]
      simpa using m3
     exact absurd(by rw[m2,ht])(zgi hc(show m<k by omega)(by omega)hem)
theorem endBy_kind {h:List Op3}(hop:∀o∈h,isOpB o=true)(t:Int) {i:Nat}(hi:i≤h.length):zbu h t i=0∨zbu h t i=3∨zbu h t i=4:=by
 by_cases h0:zbu h t i=0
 ·exact .inl h0
 ·obtain⟨k,k1,_,k3,k4⟩:=zcG t hi h0
  have:=hop _(zal(show k<h.length by omega))
  simp[isOpB]at this
  omega
def zhh(h:List Op3)(x:Int)(i:Nat):Nat→Int
 | 0=>0
 | k+1=>if(opAt h k).2.1=2∧(opAt h k).2.2=x∧zbu h(opAt h k).1 i≠4 then(opAt h k).1 else zhh h x i k
def zbt(h:List Op3)(i:Nat):Int:=zhh h(opAt h i).2.2 i i
theorem zo2 {h:List Op3} {x:Int} {i:Nat}:∀ {k:Nat},zhh h x i k≠0→∃m,m<k∧(opAt h m).2.1=2∧(opAt h m).2.2=x∧zbu h(opAt h m).1 i≠4∧(opAt h m).1=zhh h x i k:=by
 intro k
 induction k with
 | zero=>intro h0;exact absurd rfl h0
 | succ k ih =>
   intro h0
   rw[zhh]at h0 ⊢
   by_cases hc:(opAt h k).2.1=2∧(opAt h k).2.2=x∧zbu h(opAt h k).1 i≠4
   ·rw[if_pos hc];exact⟨k,by omega,hc.1,hc.2.1,hc.2.2,rfl⟩
   ·rw[if_neg hc]at h0 ⊢
    obtain⟨m,m1,m2⟩:=ih h0
    exact⟨m,by omega,m2⟩
def zzQ(h:List Op3)(i:Nat)(what:Int)(k:Nat):Bool:=(List.range k).any fun m=>(opAt h m).2.1 == what && ((opAt h m).2.2 == (opAt h i).2.2 && ((opAt h m).1 != (opAt h i).1 && zbu h(opAt h m).1 i == 0))
def zfu(h:List Op3)(i:Nat)(what:Int):Bool:=zzQ h i what i
theorem zdB {h:List Op3} {i:Nat} {what:Int}:zfu h i what=true↔∃m,m<i∧(opAt h m).2.1=what∧(opAt h m).2.2=(opAt h i).2.2∧(opAt h m).1≠(opAt h i).1∧zbu h(opAt h m).1 i=0:=by
 simp[zfu,zzQ]
def zdz(h:List Op3)(t:Int):Nat→Int
 | 0=>-1
 | k+1=>if zdz h t k=-1 then(if(opAt h k).1=t∧(opAt h k).2.1=3 then k else -1)else zdz h t k
def zd9(h:List Op3)(t:Int):Int:=zdz h t h.length
theorem zc0 {h:List Op3} {t:Int}:∀ {k:Nat},zdz h t k≠-1→∃m:Nat,m<k∧zdz h t k=m∧(opAt h m).1=t∧(opAt h m).2.1=3:=by
 intro k
 induction k with
 | zero=>intro h0;exact absurd rfl h0
 | succ k ih =>
   intro h0
   rw[zdz]at h0 ⊢
   by_cases hz:zdz h t k=-1
   ·rw[if_pos hz]at h0 ⊢
    by_cases hc:(opAt h k).1=t∧(opAt h k).2.1=3
    ·rw[if_pos hc];exact⟨k,by omega,rfl,hc.1,hc.2⟩
    ·rw[if_neg hc]at h0;exact absurd rfl h0
   ·rw[if_neg hz]at h0 ⊢
    obtain⟨m,m1,m2⟩:=ih hz
    exact⟨m,by omega,m2⟩
theorem zrk {h:List Op3} {t:Int} {m:Nat}(h1:(opAt h m).1=t)(h2:(opAt h m).2.1=3):∀ {k:Nat},m<k→zdz h t k≠-1∧zdz h t k≤m:=by
 intro k
 induction k with
 | zero=>intro h;omega
 | succ k ih =>
   intro hk
   rw[zdz]
   by_cases hz:zdz h t k=-1
   ·rw[if_pos hz]
    rcases Nat.lt_or_ge m k with e|e
    ·exact absurd hz(ih e).1
    ·rw[show m=k by omega]at h1 h2 ⊢
     rw[if_pos⟨h1,h2⟩]
     omega
   ·rw[if_neg hz]
    rcases Nat.lt_or_ge m k with e|e
    ·exact ih e
    ·obtain⟨q,q1,q2,_⟩:=zc0 hz
     exact⟨hz,by omega⟩
def zAF(h:List Op3)(i:Nat):Bool:=!((opAt h i).2.1 == 1 && (zbt h i != 0 && (zbt h i != (opAt h i).1 && (decide(0≤zd9 h(opAt h i).1) && (decide(zd9 h(zbt h i)<0) || decide(zd9 h(opAt h i).1<zd9 h(zbt h i)))))))
def zBf(h:List Op3)(i:Nat):Bool:=!((opAt h i).2.1 == 1 && (zbt h i != 0 && (zbt h i != (opAt h i).1 && zbu h(zbt h i)i != 3)))
def zAE(h:List Op3)(i:Nat):Bool:=!(decide((opAt h i).2.1≤2) && zfu h i 2)
def zAk(h:List Op3)(i:Nat):Bool:=!(decide((opAt h i).2.1≤2) && (zfu h i 2 || ((opAt h i).2.1 == 2 && zfu h i 1)))
def zx4(h:List Op3):Bool:=(List.range h.length).all(zAF h)
def zyt(h:List Op3):Bool:=(List.range h.length).all(zBf h)
def zy4(h:List Op3):Bool:=(List.range h.length).all(zAE h)
def zzg(h:List Op3):Bool:=(List.range h.length).all(zAk h)
theorem zpG {p:Nat→Bool} {n:Nat}:(List.range n).all p=true↔∀i,i<n→p i=true:=by simp
theorem ztL {h:List Op3} {n k:Nat}(hk:k<n):opAt(h.take n)k=opAt h k:=by simp[opAt,List.getD,hk]
end Go.Proofs.YthlhgiihngcobaaGreatDoor
