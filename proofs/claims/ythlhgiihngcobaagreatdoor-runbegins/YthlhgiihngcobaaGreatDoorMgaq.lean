/-
  PROVED HERE: nothing yet of packages valid, snap, danger, versions; plain facts, with no word of the program; plain facts, with no word of the program; plain facts, with no word of the program.
  Conditions: none but those that each theorem's own premises say.
-/
import Derived.Test.YthlhgiihngcobaaGreatDoorMgap
import Derived.Test.YthlhgiihngcobaaGreatDoorMgao
import Derived.Test.YthlhgiihngcobaaGreatDoorMgah
import Derived.Test.YthlhgiihngcobaaGreatDoorMgaf
import Derived.Test.YthlhgiihngcobaaGreatDoorMgag
import Derived.Test.YthlhgiihngcobaaGreatDoorMgaj
import Derived.BigQuiet
import Derived.OwnWalk
import Derived.Test.YthlhgiihngcobaaGreatDoorMgal
import Derived.Test.YthlhgiihngcobaaGreatDoorMgai
set_option maxHeartbeats 32000000
set_option maxRecDepth 100000
namespace Go.Proofs.YthlhgiihngcobaaGreatDoor
open Go.RowKit
def zAO(of:Int->Dl)(ds:List Int)(i:Nat):Int:=lastK of ds ((i:Int)+1)
def zvD(of:Int->Dl)(ds:List Int):List Int:=(List.range 6).map (zAO of ds)
def zp4(of:Int->Dl)(ds:List Int):List Op3:=ds.flatMap fun t=>(of t).seen
theorem zsM(of:Int->Dl)(ds:List Int):(zvD of ds).length=6:=by simp[zvD]
theorem ztg{of:Int->Dl}{m:Nat}(h:∀t,(of t).seen.length<=m):∀ds:List Int,(zp4 of ds).length<=ds.length*m:=by
 intro ds
 induction ds with
 | nil=>simp[zp4]
 | cons t r ih =>unfold zp4 at ih ⊢;rw[List.flatMap_cons,List.length_append,List.length_cons,Nat.succ_mul];have:=h t;omega
def zom(byN:Bool)(done:List Int):List Int:=if byN=true then zjP done else done
def outU(kind:Int)(okF:Kst->Int->Dl->Bool)(byN:Bool)(l:List Op3):(List Int × List Op3 × List Int) × Int :=if(chk l).2≠0 then(([],[],[]),(chk l).2)else((zom byN (runK kind okF l l.length).done,zp4 (runK kind okF l l.length).of (zom byN (runK kind okF l l.length).done),zvD (runK kind okF l l.length).of (zom byN (runK kind okF l l.length).done)),0)
theorem zfK{kind:Int}{okF:Kst->Int->Dl->Bool}{byN:Bool}{l:List Op3}(h:(chk l).2≠0):outU kind okF byN l=(([],[],[]),(chk l).2):=by unfold outU;rw[if_pos h]
theorem zkC{kind:Int}{okF:Kst->Int->Dl->Bool}{byN:Bool}{l:List Op3}(h:(chk l).2=0):outU kind okF byN l=((zom byN (runK kind okF l l.length).done,zp4 (runK kind okF l l.length).of (zom byN (runK kind okF l l.length).done),zvD (runK kind okF l l.length).of (zom byN (runK kind okF l l.length).done)),0):=by unfold outU;rw[if_neg (by simpa using h)]
theorem zud(done:List Int):(zjP done).length<=6:=by unfold zjP;exact Nat.le_trans (List.length_filter_le _ _) (by simp)
theorem zwp{byN:Bool}{done:List Int}(h:done.length<=6):(zom byN done).length<=6:=by
 unfold zom;split
 ·exact zud done
 ·exact h
theorem zoW(kind:Int)(okF:Kst->Int->Dl->Bool)(byN:Bool)(l:List Op3):(outU kind okF byN l).1.1.length<=6/\(outU kind okF byN l).1.2.1.length<=240/\(outU kind okF byN l).1.2.2.length<=6:=by
 by_cases h:(chk l).2=0
 ·rw[zkC h];have h1:=zwp (byN:=byN) (zzV kind okF h);have h2:=zaQ h;have h3:=ztg (of:=(runK kind okF l l.length).of) (m:=40) (fun t=>by have:=((zAg kind okF l l.length).1 t).1;omega) (zom byN (runK kind okF l l.length).done);refine⟨h1,?_,by show(zvD _ _).length<=6;rw[zsM];exact Nat.le_refl _⟩;show(zp4 _ _).length<=240;omega
 ·rw[zfK h];exact⟨by simp,by simp,by simp⟩
def znm(F:FuncId)(kind:Int)(okF:Kst->Int->Dl->Bool)(byN:Bool):Prop:=∀(l:List Op3) (v:Value) (w:World),zai w v l->Calls Tryz.prog F #[v] w fun e w'=>∃a1 a2 a3,e=.returned (.tuple #[.agg #[a1,a2,a3],zeH (outU kind okF byN l).2]) /\
 zaf w' a1 (outU kind okF byN l).1.1/\zai w' a2 (outU kind okF byN l).1.2.1/\zaf w' a3 (outU kind okF byN l).1.2.2/\zBO a1/\Below w.heap.size w w'
end Go.Proofs.YthlhgiihngcobaaGreatDoor
namespace Go.Proofs.YthlhgiihngcobaaGreatDoor
def zza(d:List Op3):Nat->(Int->Int) × (Int->Int)
 | 0=>(fun _=>0,fun _=>0)
 | k+1 =>
   (fun x=>if(opAt d k).2.1=2/\(opAt d k).2.2=x then(7*(opAt d k).1+((nthAt d k:Int)+1)+(zza d k).2 (opAt d k).1) % 1000003 else(zza d k).1 x,
    fun t=>if(opAt d k).2.1=1/\(opAt d k).1=t then(zza d k).2 t+(zza d k).1 (opAt d k).2.2 else(zza d k).2 t)
def zh3(d:List Op3)(k:Nat)(x:Int):Int:=(zza d k).1 x
def zhn(d:List Op3)(k:Nat)(t:Int):Int:=(zza d k).2 t
def wrote(d:List Op3)(k:Nat):Int:=(7*(opAt d k).1+((nthAt d k:Int)+1)+zhn d k (opAt d k).1) % 1000003
def zoa(d:List Op3)(k:Nat):Int:=zh3 d k (opAt d k).2.2
theorem zrt(d:List Op3)(t:Int):zhn d 0 t=0:=rfl
theorem zk4{d:List Op3}{k:Nat}{x:Int}(h1:(opAt d k).2.1=2)(h2:(opAt d k).2.2=x):zh3 d (k+1) x=wrote d k:=if_pos ⟨h1,h2⟩
theorem zga{d:List Op3}{k:Nat}{x:Int}(h:¬((opAt d k).2.1=2/\(opAt d k).2.2=x)):zh3 d (k+1) x=zh3 d k x:=if_neg h
theorem zk5{d:List Op3}{k:Nat}{t:Int}(h1:(opAt d k).2.1=1)(h2:(opAt d k).1=t):zhn d (k+1) t=zhn d k t+zoa d k:=if_pos ⟨h1,h2⟩
theorem zgy{d:List Op3}{k:Nat}{t:Int}(h:¬((opAt d k).2.1=1/\(opAt d k).1=t)):zhn d (k+1) t=zhn d k t:=if_neg h
theorem zoj(d:List Op3)(k:Nat):0<=wrote d k/\wrote d k<1000003:=⟨Int.emod_nonneg _ (by decide),Int.emod_lt_of_pos _ (by decide)⟩
theorem zpi(d:List Op3)(x:Int):∀k,zh3 d k x=match zmN d x k with | none=>0 | some j=>wrote d j:=by
 intro k
 induction k with
 | zero=>rfl
 | succ k ih =>
   by_cases h:(opAt d k).2.1=2/\(opAt d k).2.2=x
   ·rw[zk4 h.1 h.2,zkH h.1 h.2]
   ·rw[zga h,zhV h,ih]
theorem zqa{d:List Op3}{x:Int}{k:Nat}(h:zmN d x k=none):zh3 d k x=0:=by rw[zpi,h]
theorem zrP{d:List Op3}{x:Int}{k j:Nat}(h:zmN d x k=some j):zh3 d k x=wrote d j:=by rw[zpi,h]
theorem zdt(d:List Op3)(k:Nat)(x:Int):0<=zh3 d k x/\zh3 d k x<1000003:=by
 cases h:zmN d x k with
 | none=>rw[zqa h];decide
 | some j=>rw[zrP h];exact zoj d j
theorem zhx(d:List Op3)(t:Int):∀k:Nat,0<=zhn d k t/\zhn d k t<=(k:Int)*1000003:=by
 intro k
 induction k with
 | zero=>rw[zrt];omega
 | succ k ih =>
   by_cases h:(opAt d k).2.1=1/\(opAt d k).1=t
   ·rw[zk5 h.1 h.2];have:=zdt d k (opAt d k).2.2;unfold zoa;omega
   ·rw[zgy h];omega
theorem zj5{d:List Op3}{k:Nat}(hk:k<d.length)(t:Int):(ofL (d.take (k+1)) t).length=(ofL (d.take k) t).length+if(opAt d k).1=t then 1 else 0:=by
 rw[List.take_succ_eq_append_getElem hk,zey,zdr,List.length_append];have:d[k]=opAt d k:=by simp[opAt,List.getD,List.getElem?_eq_getElem hk]
 rw[this];split <;> simp[ofL]
def valsL(d:List Op3):List Int:=(List.range 6).map fun(j:Nat)=>zh3 d d.length ((j:Int)+1)
def zaS(d:List Op3):Nat->List Int
 | 0=>[]
 | k+1=>if(opAt d k).2.1=1 then zaS d k++[zoa d k]else zaS d k
theorem zqj(d:List Op3)(k:Nat):(zaS d k).length<=k:=by
 induction k with
 | zero=>exact Nat.le_refl _
 | succ k ih =>
   rw[zaS];split
   ·simp;omega
   ·omega
end Go.Proofs.YthlhgiihngcobaaGreatDoor
namespace Go.Proofs.YthlhgiihngcobaaGreatDoor
def okS(s:Kst)(t:Int)(r:Dl):Bool:=!zyP 2 s t r
end Go.Proofs.YthlhgiihngcobaaGreatDoor
namespace Go.Proofs.YthlhgiihngcobaaGreatDoor
def zlc(t:Int)(a b:Dl):Bool:=znH a b && b.wrote.any fun item=>zlO t a item
def zoh(of:Int->Dl)(ds:List Int)(t:Int):Bool:=ds.any fun u=>u != t && zlc t (of t) (of u)
def zkx(of:Int->Dl)(ds:List Int)(t:Int):Bool:=ds.any fun u=>u != t && zlc u (of u) (of t)
def zAW(of:Int->Dl)(ds:List Int):Bool:=ds.any fun t=>zkx of ds t && zoh of ds t
def zpZ(s:Kst)(t:Int)(r:Dl):Bool:=!zyP 3 s t r && !zAW (setF s.of t r) (s.done++[t])
section
variable {l:List Op3} {k:Nat} {s:Kst}
end
end Go.Proofs.YthlhgiihngcobaaGreatDoor
