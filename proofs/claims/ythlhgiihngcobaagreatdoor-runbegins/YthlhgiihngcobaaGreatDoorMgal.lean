/-
  PROVED HERE: plain facts, with no word of the program; laneref1.End answers as the plain function endOf says of the first ops of a list; laneref1.Done gives, of a right list, the ops of the deals that commit; nothing yet of package ills.
  Conditions: none but those that each theorem's own premises say.
-/
import Derived.Test.YthlhgiihngcobaaGreatDoorMgak
import Derived.Test.YthlhgiihngcobaaGreatDoorMgag
import Derived.Deep.QuietTactic
import Derived.BigQuiet
import Derived.WalkSmall
import Derived.Test.YthlhgiihngcobaaGreatDoorMgah
set_option maxHeartbeats 32000000
set_option maxRecDepth 100000
namespace Go.Proofs.YthlhgiihngcobaaGreatDoor
theorem isOp_kindsI{o:Op3}(h:isOpB o=true):o.2.1=1\/o.2.1=2\/((o.2.1=3\/o.2.1=4)/\o.2.2=0):=by
 simp only[isOpB,zaM,Bool.and_eq_true,Bool.not_eq_true',Bool.or_eq_false_iff,decide_eq_false_iff_not]at h;obtain⟨⟨⟨⟨h1,h2⟩,h3⟩,h4⟩,h5⟩:=h;rcases(show o.2.1=1\/o.2.1=2\/o.2.1=3\/o.2.1=4 by omega)with e | e | e | e
 ·exact .inl e
 ·exact .inr (.inl e)
 ·rw[e]at h5;simp at h5;exact .inr (.inr ⟨.inl e,h5⟩)
 ·rw[e]at h5;simp at h5;exact .inr (.inr ⟨.inr e,h5⟩)
def ze6(p:Nat->Bool)(n:Nat):Bool:=(List.range n).any p
theorem zcz{p:Nat->Bool}{n:Nat}:ze6 p n=true↔∃i,i<n/\p i=true:=by unfold ze6;simp
def zBW(h:List Op3)(i:Nat):Bool:=(opAt h i).2.1 == 2 && zfd h i 2
def zBY(h:List Op3)(i:Nat):Bool:=(opAt h i).2.1 == 1 && zfd h i 2
def zBT(h:List Op3)(i:Nat):Bool:=(opAt h i).2.1 == 2 && zfd h i 1
def zBU(h:List Op3)(i:Nat):Bool:=decide ((opAt h i).2.1<=2) && (zfd h i 2 || ((opAt h i).2.1 == 2 && zfd h i 1))
def zze(h:List Op3)(i k j:Nat):Bool :=(opAt h i).2.1 == 1 && ((opAt h k).2.1 == 2 && ((opAt h j).2.1 == 2 && ((opAt h i).1 == (opAt h j).1 && ((opAt h i).1 != (opAt h k).1 && ((opAt h i).2.2 == (opAt h k).2.2 && ((opAt h i).2.2 == (opAt h j).2.2 && zgc h (opAt h i).1 == 3))))))
def zCd(h:List Op3)(i k n:Nat):Bool:=ze6 (fun j=>decide (k<j) && zze h i k j) n
def zCc(h:List Op3)(i n:Nat):Bool:=ze6 (fun k=>decide (i<k) && zCd h i k h.length) n
def zzO(h:List Op3)(n:Nat):Bool:=ze6 (fun i=>zCc h i h.length) n
def znK(h:List Op3):Nat->Int
 | 0=>-1
 | k+1=>if znK h k<0/\zBU h k=true then k else znK h k
def zin(h:List Op3):(Bool × Bool × Bool × Bool) × Int:=((ze6 (zBW h) h.length,ze6 (zBY h) h.length,ze6 (zBT h) h.length,zzO h h.length),znK h h.length)
end Go.Proofs.YthlhgiihngcobaaGreatDoor
namespace Go.Proofs.YthlhgiihngcobaaGreatDoor
open Go.RowKit
theorem zkD{x y:Int}(h:x=y):Ending.returned (.int .i64 x)=.returned (.int .i64 y):=by rw[h]
end Go.Proofs.YthlhgiihngcobaaGreatDoor
namespace Go.Proofs.YthlhgiihngcobaaGreatDoor
open Go.RowKit
def zBO(v:Value):Prop:=∃ad n c,v=.slice ad n c/\n<=c
end Go.Proofs.YthlhgiihngcobaaGreatDoor
namespace Go.Proofs.YthlhgiihngcobaaGreatDoor
open Go.RowKit
def zly(l:List Op3):Bool × Bool × Bool × Bool:=if(chk l).2≠0 then(false,false,false,false)else(zin l).1
def zqv(x:Bool × Bool × Bool × Bool):Value:=.agg #[.bool x.1,.bool x.2.1,.bool x.2.2.1,.bool x.2.2.2]
def zz7:Prop:=∀(l:List Op3) (ad:Option Addr) (cap:Nat) (w:World),zai w (.slice ad l.length cap) l->l.length<=cap->Calls Tryz.prog 27 #[.slice ad l.length cap] w fun e w'=>e=.returned (.tuple #[zqv (zly l),zeH (chk l).2])/\Below w.heap.size w w'
end Go.Proofs.YthlhgiihngcobaaGreatDoor
