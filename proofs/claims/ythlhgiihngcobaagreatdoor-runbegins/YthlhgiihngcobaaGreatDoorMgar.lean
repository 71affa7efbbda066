/-
  PROVED HERE: nothing yet of packages valid, snap, danger, versions; plain facts, with no word of the program; plain facts, with no word of the program; plain facts, with no word of the program.
  Conditions: none but those that each theorem's own premises say.
-/
import Derived.Test.YthlhgiihngcobaaGreatDoorMgaq
import Derived.Test.YthlhgiihngcobaaGreatDoorMgap
import Derived.Test.YthlhgiihngcobaaGreatDoorMgah
import Derived.Test.YthlhgiihngcobaaGreatDoorMgaf
import Derived.Test.YthlhgiihngcobaaGreatDoorMgag
import Derived.Test.YthlhgiihngcobaaGreatDoorMgak
import Derived.BigQuiet
import Derived.OwnWalk
import Derived.Test.YthlhgiihngcobaaGreatDoorMgam
import Derived.Test.YthlhgiihngcobaaGreatDoorMgaj
set_option maxHeartbeats 32000000
set_option maxRecDepth 100000
namespace Go.Proofs.YthlhgiihngcobaaGreatDoor
open Go.RowKit
def zA4(of:Int->Dl)(ds:List Int)(i:Nat):Int:=lastK of ds ((i:Int)+1)
def ztd(of:Int->Dl)(ds:List Int):List Int:=(List.range 6).map (zA4 of ds)
def zrG(of:Int->Dl)(ds:List Int):List Op3:=ds.flatMap fun t=>(of t).seen
theorem zuu(of:Int->Dl)(ds:List Int):(ztd of ds).length=6:=by simp[ztd]
theorem zvQ{of:Int->Dl}{m:Nat}(h:∀t,(of t).seen.length<=m):∀ds:List Int,(zrG of ds).length<=ds.length*m:=by
 intro ds
 induction ds with
 | nil=>simp[zrG]
 | cons t r ih =>unfold zrG at ih ⊢;rw[List.flatMap_cons,List.length_append,List.length_cons,Nat.succ_mul];have:=h t;omega
def zn6(byN:Bool)(done:List Int):List Int:=if byN=true then zku done else done
def outU(kind:Int)(okF:Kst->Int->Dl->Bool)(byN:Bool)(l:List Op3):(List Int × List Op3 × List Int) × Int :=if(chk l).2≠0 then(([],[],[]),(chk l).2)else((zn6 byN (runK kind okF l l.length).done,zrG (runK kind okF l l.length).of (zn6 byN (runK kind okF l l.length).done),ztd (runK kind okF l l.length).of (zn6 byN (runK kind okF l l.length).done)),0)
theorem zfM{kind:Int}{okF:Kst->Int->Dl->Bool}{byN:Bool}{l:List Op3}(h:(chk l).2≠0):outU kind okF byN l=(([],[],[]),(chk l).2):=by unfold outU;rw[if_pos h]
theorem zkz{kind:Int}{okF:Kst->Int->Dl->Bool}{byN:Bool}{l:List Op3}(h:(chk l).2=0):outU kind okF byN l=((zn6 byN (runK kind okF l l.length).done,zrG (runK kind okF l l.length).of (zn6 byN (runK kind okF l l.length).done),ztd (runK kind okF l l.length).of (zn6 byN (runK kind okF l l.length).done)),0):=by unfold outU;rw[if_neg (by simpa using h)]
theorem zst(done:List Int):(zku done).length<=6:=by unfold zku;exact Nat.le_trans (List.length_filter_le _ _) (by simp)
theorem zxf{byN:Bool}{done:List Int}(h:done.length<=6):(zn6 byN done).length<=6:=by
 unfold zn6;split
 ·exact zst done
 ·exact h
theorem zps(kind:Int)(okF:Kst->Int->Dl->Bool)(byN:Bool)(l:List Op3):(outU kind okF byN l).1.1.length<=6/\(outU kind okF byN l).1.2.1.length<=240/\(outU kind okF byN l).1.2.2.length<=6:=by
 by_cases h:(chk l).2=0
 ·rw[zkz h];have h1:=zxf (byN:=byN) (zAG kind okF h);have h2:=zaS h;have h3:=zvQ (of:=(runK kind okF l l.length).of) (m:=40) (fun t=>by have:=((zz3 kind okF l l.length).1 t).1;omega) (zn6 byN (runK kind okF l l.length).done);refine⟨h1,?_,by show(ztd _ _).length<=6;rw[zuu];exact Nat.le_refl _⟩;show(zrG _ _).length<=240;omega
 ·rw[zfM h];exact⟨by simp,by simp,by simp⟩
def zoC(F:FuncId)(kind:Int)(okF:Kst->Int->Dl->Bool)(byN:Bool):Prop:=∀(l:List Op3) (v:Value) (w:World),zai w v l->Calls Tryz.prog F #[v] w fun e w'=>∃a1 a2 a3,e=.returned (.tuple #[.agg #[a1,a2,a3],zeR (outU kind okF byN l).2]) /\
 zaf w' a1 (outU kind okF byN l).1.1/\zai w' a2 (outU kind okF byN l).1.2.1/\zaf w' a3 (outU kind okF byN l).1.2.2/\zBV a1/\Below w.heap.size w w'
end Go.Proofs.YthlhgiihngcobaaGreatDoor
namespace Go.Proofs.YthlhgiihngcobaaGreatDoor
def zAh(d:List Op3):Nat->(Int->Int) × (Int->Int)
 | 0=>(fun _=>0,fun _=>0)
 | k+1 =>
   (fun x=>if(opAt d k).2.1=2/\(opAt d k).2.2=x then(7*(opAt d k).1+((nthAt d k:Int)+1)+(zAh d k).2 (opAt d k).1) % 1000003 else(zAh d k).1 x,
    fun t=>if(opAt d k).2.1=1/\(opAt d k).1=t then(zAh d k).2 t+(zAh d k).1 (opAt d k).2.2 else(zAh d k).2 t)
def zh3(d:List Op3)(k:Nat)(x:Int):Int:=(zAh d k).1 x
def zhU(d:List Op3)(k:Nat)(t:Int):Int:=(zAh d k).2 t
def wrote(d:List Op3)(k:Nat):Int:=(7*(opAt d k).1+((nthAt d k:Int)+1)+zhU d k (opAt d k).1) % 1000003
def zoM(d:List Op3)(k:Nat):Int:=zh3 d k (opAt d k).2.2
theorem zq3(d:List Op3)(t:Int):zhU d 0 t=0:=rfl
theorem zln{d:List Op3}{k:Nat}{x:Int}(h1:(opAt d k).2.1=2)(h2:(opAt d k).2.2=x):zh3 d (k+1) x=wrote d k:=if_pos ⟨h1,h2⟩
theorem zgC{d:List Op3}{k:Nat}{x:Int}(h:¬((opAt d k).2.1=2/\(opAt d k).2.2=x)):zh3 d (k+1) x=zh3 d k x:=if_neg h
theorem zmO{d:List Op3}{k:Nat}{t:Int}(h1:(opAt d k).2.1=1)(h2:(opAt d k).1=t):zhU d (k+1) t=zhU d k t+zoM d k:=if_pos ⟨h1,h2⟩
theorem zgz{d:List Op3}{k:Nat}{t:Int}(h:¬((opAt d k).2.1=1/\(opAt d k).1=t)):zhU d (k+1) t=zhU d k t:=if_neg h
theorem znu(d:List Op3)(k:Nat):0<=wrote d k/\wrote d k<1000003:=⟨Int.emod_nonneg _ (by decide),Int.emod_lt_of_pos _ (by decide)⟩
theorem zpi(d:List Op3)(x:Int):∀k,zh3 d k x=match zmW d x k with | none=>0 | some j=>wrote d j:=by
 intro k
 induction k with
 | zero=>rfl
 | succ k ih =>
   by_cases h:(opAt d k).2.1=2/\(opAt d k).2.2=x
   ·rw[zln h.1 h.2,zkL h.1 h.2]
   ·rw[zgC h,zhW h,ih]
theorem zrN{d:List Op3}{x:Int}{k:Nat}(h:zmW d x k=none):zh3 d k x=0:=by rw[zpi,h]
theorem zrf{d:List Op3}{x:Int}{k j:Nat}(h:zmW d x k=some j):zh3 d k x=wrote d j:=by rw[zpi,h]
theorem zdx(d:List Op3)(k:Nat)(x:Int):0<=zh3 d k x/\zh3 d k x<1000003:=by
 cases h:zmW d x k with
 | none=>rw[zrN h];decide
 | some j=>rw[zrf h];exact znu d j
theorem zhO(d:List Op3)(t:Int):∀k:Nat,0<=zhU d k t/\zhU d k t<=(k:Int)*1000003:=by
 intro k
 induction k with
 | zero=>rw[zq3];omega
 | succ k ih =>
   by_cases h:(opAt d k).2.1=1/\(opAt d k).1=t
   ·rw[zmO h.1 h.2];have:=zdx d k (opAt d k).2.2;unfold zoM;omega
   ·rw[zgz h];omega
theorem zkt{d:List Op3}{k:Nat}(hk:k<d.length)(t:Int):(ofL (d.take (k+1)) t).length=(ofL (d.take k) t).length+if(opAt d k).1=t then 1 else 0:=by
 rw[List.take_succ_eq_append_getElem hk,zeA,zdC,List.length_append];have:d[k]=opAt d k:=by simp[opAt,List.getD,List.getElem?_eq_getElem hk]
 rw[this];split <;> simp[ofL]
def valsL(d:List Op3):List Int:=(List.range 6).map fun(j:Nat)=>zh3 d d.length ((j:Int)+1)
def zaU(d:List Op3):Nat->List Int
 | 0=>[]
 | k+1=>if(opAt d k).2.1=1 then zaU d k++[zoM d k]else zaU d k
theorem zr4(d:List Op3)(k:Nat):(zaU d k).length<=k:=by
 induction k with
 | zero=>exact Nat.le_refl _
 | succ k ih =>
   rw[zaU];split
   ·simp;omega
   ·omega
end Go.Proofs.YthlhgiihngcobaaGreatDoor
namespace Go.Proofs.YthlhgiihngcobaaGreatDoor
def okS(s:Kst)(t:Int)(r:Dl):Bool:=!zyH 2 s t r
end Go.Proofs.YthlhgiihngcobaaGreatDoor
namespace Go.Proofs.YthlhgiihngcobaaGreatDoor
def zmH(t:Int)(a b:Dl):Bool:=znp a b && b.wrote.any fun item=>zmG t a item
def zob(of:Int->Dl)(ds:List Int)(t:Int):Bool:=ds.any fun u=>u != t && zmH t (of t) (of u)
def zkl(of:Int->Dl)(ds:List Int)(t:Int):Bool:=ds.any fun u=>u != t && zmH u (of u) (of t)
def zBE(of:Int->Dl)(ds:List Int):Bool:=ds.any fun t=>zkl of ds t && zob of ds t
def zsg(s:Kst)(t:Int)(r:Dl):Bool:=!zyH 3 s t r && !zBE (setF s.of t r) (s.done++[t])
section
variable {l:List Op3} {k:Nat} {s:Kst}
end
end Go.Proofs.YthlhgiihngcobaaGreatDoor
