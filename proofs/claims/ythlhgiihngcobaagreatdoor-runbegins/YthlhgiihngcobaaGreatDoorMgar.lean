/-
  PROVED HERE: nothing yet of packages valid, snap, danger, versions; plain facts, with no word of the program; plain facts, with no word of the program; plain facts, with no word of the program.
  Conditions: none but those that each theorem's own premises say.
-/
import Derived.Test.YthlhgiihngcobaaGreatDoorMgaq
import Derived.Test.YthlhgiihngcobaaGreatDoorMgap
import Derived.Test.YthlhgiihngcobaaGreatDoorMgah
import Derived.Test.YthlhgiihngcobaaGreatDoorMgaf
import Derived.Test.YthlhgiihngcobaaGreatDoorMgag
import Derived.Test.YthlhgiihngcobaaGreatDoorMgak
import Derived.BigQuiet
import Derived.OwnWalk
import Derived.Test.YthlhgiihngcobaaGreatDoorMgam
import Derived.Test.YthlhgiihngcobaaGreatDoorMgaj
namespace Go.Proofs.YthlhgiihngcobaaGreatDoor
open Go.RowKit
def zCP(of:Int→Dl)(ds:List Int)(i:Nat):Int:=zjp of ds((i:Int)+1)
def zwI(of:Int→Dl)(ds:List Int):List Int:=(List.range 6).map(zCP of ds)
def zrw(of:Int→Dl)(ds:List Int):List Op3:=ds.flatMap fun t=>(of t).seen
theorem zwa(of:Int→Dl)(ds:List Int):(zwI of ds).length=6:=by simp[zwI]
theorem zww {of:Int→Dl} {m:Nat}(h:∀t,(of t).seen.length≤m):∀ds:List Int,(zrw of ds).length≤ds.length*m:=by
 intro ds
 induction ds with
 | nil=>simp[zrw]
 | cons t r ih =>
   unfold zrw at ih ⊢
   rw[List.flatMap_cons,List.length_append,List.length_cons,Nat.succ_mul]
   have:=h t
   omega
def zoj(byN:Bool)(done:List Int):List Int:=if byN=true then zle done else done
def outU(kind:Int)(okF:Kst→Int→Dl→Bool)(byN:Bool)(l:List Op3):(List Int × List Op3 × List Int) × Int :=
 if(chk l).2≠0 then(([],[],[]),(chk l).2)else((zoj byN(runK kind okF l l.length).done,zrw(runK kind okF l l.length).of(zoj byN(runK kind okF l l.length).done),zwI(runK kind okF l l.length).of(zoj byN(runK kind okF l l.length).done)),0)
theorem zfP {kind:Int} {okF:Kst→Int→Dl→Bool} {byN:Bool} {l:List Op3}(h:(chk l).2≠0):outU kind okF byN l=(([],[],[]),(chk l).2):=by unfold outU;rw[if_pos h]
theorem zld {kind:Int} {okF:Kst→Int→Dl→Bool} {byN:Bool} {l:List Op3}(h:(chk l).2=0):outU kind okF byN l=((zoj byN(runK kind okF l l.length).done,zrw(runK kind okF l l.length).of(zoj byN(runK kind okF l l.length).done),zwI(runK kind okF l l.length).of(zoj byN(runK kind okF l l.length).done)),0):=by unfold outU;rw[if_neg(by simpa using h)]
theorem zts(done:List Int):(zle done).length≤6:=by
 unfold zle
 exact Nat.le_trans(List.length_filter_le _ _)(by simp)
theorem zzo {byN:Bool} {done:List Int}(h:done.length≤6):(zoj byN done).length≤6:=by
 unfold zoj
 split
 ·exact zts done
 ·exact h
theorem zqu(kind:Int)(okF:Kst→Int→Dl→Bool)(byN:Bool)(l:List Op3):(outU kind okF byN l).1.1.length≤6∧(outU kind okF byN l).1.2.1.length≤240∧(outU kind okF byN l).1.2.2.length≤6:=by
 by_cases h:(chk l).2=0
 ·rw[zld h]
  have h1:=zzo(byN:=byN)(zAP kind okF h)
  have h2:=zaW h
  have h3:=zww(of:=(runK kind okF l l.length).of)(m:=40)(fun t=>by have:=((zBb kind okF l l.length).1 t).1;omega)(zoj byN(runK kind okF l l.length).done)
  refine⟨h1,?_,by show(zwI _ _).length≤6;rw[zwa];exact Nat.le_refl _⟩
  show(zrw _ _).length≤240
  omega
 ·rw[zfP h]
  exact⟨by simp,by simp,by simp⟩
def zow(F:FuncId)(kind:Int)(okF:Kst→Int→Dl→Bool)(byN:Bool):Prop:=∀(l:List Op3)(v:Value)(w:World),zai w v l→Calls Tryz.prog F #[v]w fun e w'=>∃a1 a2 a3,e=.returned(.tuple #[.agg #[a1,a2,a3],zfc(outU kind okF byN l).2]) ∧
 zaf w' a1(outU kind okF byN l).1.1∧zai w' a2(outU kind okF byN l).1.2.1∧zaf w' a3(outU kind okF byN l).1.2.2∧zC1 a1∧Below w.heap.size w w'
def zA0(d:List Op3):Nat→(Int→Int) × (Int→Int)
 | 0=>(fun _=>0,fun _=>0)
 | k+1 =>
   (fun x=>if(opAt d k).2.1=2∧(opAt d k).2.2=x then(7*(opAt d k).1+((nthAt d k:Int)+1)+(zA0 d k).2(opAt d k).1) % 1000003 else(zA0 d k).1 x,
    fun t=>if(opAt d k).2.1=1∧(opAt d k).1=t then(zA0 d k).2 t+(zA0 d k).1(opAt d k).2.2 else(zA0 d k).2 t)
def ziK(d:List Op3)(k:Nat)(x:Int):Int:=(zA0 d k).1 x
def zip(d:List Op3)(k:Nat)(t:Int):Int:=(zA0 d k).2 t
def wrote(d:List Op3)(k:Nat):Int:=(7*(opAt d k).1+((nthAt d k:Int)+1)+zip d k(opAt d k).1) % 1000003
def zpg(d:List Op3)(k:Nat):Int:=ziK d k(opAt d k).2.2
theorem zsd(d:List Op3)(t:Int):zip d 0 t=0:=rfl
theorem zmm {d:List Op3} {k:Nat} {x:Int}(h1:(opAt d k).2.1=2)(h2:(opAt d k).2.2=x):ziK d(k+1)x=wrote d k:=if_pos⟨h1,h2⟩
theorem zgQ {d:List Op3} {k:Nat} {x:Int}(h:¬((opAt d k).2.1=2∧(opAt d k).2.2=x)):ziK d(k+1)x=ziK d k x:=if_neg h
theorem zmh {d:List Op3} {k:Nat} {t:Int}(h1:(opAt d k).2.1=1)(h2:(opAt d k).1=t):zip d(k+1)t=zip d k t+zpg d k:=if_pos⟨h1,h2⟩
theorem zgG {d:List Op3} {k:Nat} {t:Int}(h:¬((opAt d k).2.1=1∧(opAt d k).1=t)):zip d(k+1)t=zip d k t:=if_neg h
theorem zoD(d:List Op3)(k:Nat):0≤wrote d k∧wrote d k<1000003:=⟨Int.emod_nonneg _(by decide),Int.emod_lt_of_pos _(by decide)⟩
theorem zqd(d:List Op3)(x:Int):∀k,ziK d k x=match znE d x k with|none=>0|some j=>wrote d j:=by
 intro k
 induction k with
 | zero=>rfl
 | succ k ih =>
   by_cases h:(opAt d k).2.1=2∧(opAt d k).2.2=x
   ·rw[zmm h.1 h.2,zlr h.1 h.2]
   ·rw[zgQ h,zh8 h,ih]
theorem zs0 {d:List Op3} {x:Int} {k:Nat}(h:znE d x k=none):ziK d k x=0:=by rw[zqd,h]
theorem zso {d:List Op3} {x:Int} {k j:Nat}(h:znE d x k=some j):ziK d k x=wrote d j:=by rw[zqd,h]
theorem zdH(d:List Op3)(k:Nat)(x:Int):0≤ziK d k x∧ziK d k x<1000003:=by
 cases h:znE d x k with
 | none=>rw[zs0 h];decide
 | some j=>rw[zso h];exact zoD d j
theorem zii(d:List Op3)(t:Int):∀k:Nat,0≤zip d k t∧zip d k t≤(k:Int)*1000003:=by
 intro k
 induction k with
 | zero=>rw[zsd];omega
 | succ k ih =>
   by_cases h:(opAt d k).2.1=1∧(opAt d k).1=t
   ·rw[zmh h.1 h.2]
    have:=zdH d k(opAt d k).2.2
    unfold zpg
    omega
   ·rw[zgG h]
    omega
theorem zkW {d:List Op3} {k:Nat}(hk:k<d.length)(t:Int):(ofL(d.take(k+1))t).length=(ofL(d.take k)t).length+if(opAt d k).1=t then 1 else 0:=by
 rw[List.take_succ_eq_append_getElem hk,ze9,zdU,List.length_append]
 have:d[k]=opAt d k:=by simp[opAt,List.getD,List.getElem?_eq_getElem hk]
 rw[this]
 split <;> simp[ofL]
def valsL(d:List Op3):List Int:=(List.range 6).map fun(j:Nat)=>ziK d d.length((j:Int)+1)
def zaZ(d:List Op3):Nat→List Int
 | 0=>[]
 | k+1=>if(opAt d k).2.1=1 then zaZ d k++[zpg d k]else zaZ d k
theorem zrT(d:List Op3)(k:Nat):(zaZ d k).length≤k:=by
 induction k with
 | zero=>exact Nat.le_refl _
 | succ k ih =>
   rw[zaZ]
   split
   ·simp;omega
   ·omega
def okS(s:Kst)(t:Int)(r:Dl):Bool:=!zzU 2 s t r
def znj(t:Int)(a b:Dl):Bool:=zop a b && b.wrote.any fun item=>znr t a item
def zpp(of:Int→Dl)(ds:List Int)(t:Int):Bool:=ds.any fun u=>u != t && znj t(of t)(of u)
def zkX(of:Int→Dl)(ds:List Int)(t:Int):Bool:=ds.any fun u=>u != t && znj u(of u)(of t)
def zCr(of:Int→Dl)(ds:List Int):Bool:=ds.any fun t=>zkX of ds t && zpp of ds t
def zrJ(s:Kst)(t:Int)(r:Dl):Bool:=!zzU 3 s t r && !zCr(setF s.of t r)(s.done++[t])
section
variable {l:List Op3} {k:Nat} {s:Kst}
end
end Go.Proofs.YthlhgiihngcobaaGreatDoor
