/-
  PROVED HERE: plain facts, with no word of the program; laneref1.End answers as the plain function endOf says of the first ops of a list; laneref1.Done gives, of a right list, the ops of the deals that commit; nothing yet of package ills.
  Conditions: none but those that each theorem's own premises say.
-/
import Derived.Test.YthlhgiihngcobaaGreatDoorMgal
import Derived.Test.YthlhgiihngcobaaGreatDoorMgag
import Derived.Deep.QuietTactic
import Derived.BigQuiet
import Derived.WalkSmall
import Derived.Test.YthlhgiihngcobaaGreatDoorMgah
set_option maxHeartbeats 32000000
set_option maxRecDepth 100000
namespace Go.Proofs.YthlhgiihngcobaaGreatDoor
theorem isOp_kindsI{o:Op3}(h:isOpB o=true):o.2.1=1\/o.2.1=2\/((o.2.1=3\/o.2.1=4)/\o.2.2=0):=by
 simp only[isOpB,zaO,Bool.and_eq_true,Bool.not_eq_true',Bool.or_eq_false_iff,decide_eq_false_iff_not]at h;obtain⟨⟨⟨⟨h1,h2⟩,h3⟩,h4⟩,h5⟩:=h;rcases(show o.2.1=1\/o.2.1=2\/o.2.1=3\/o.2.1=4 by omega)with e | e | e | e
 ·exact .inl e
 ·exact .inr (.inl e)
 ·rw[e]at h5;simp at h5;exact .inr (.inr ⟨.inl e,h5⟩)
 ·rw[e]at h5;simp at h5;exact .inr (.inr ⟨.inr e,h5⟩)
def zfi(p:Nat->Bool)(n:Nat):Bool:=(List.range n).any p
theorem zcL{p:Nat->Bool}{n:Nat}:zfi p n=true↔∃i,i<n/\p i=true:=by unfold zfi;simp
def zCc(h:List Op3)(i:Nat):Bool:=(opAt h i).2.1 == 2 && zff h i 2
def zCb(h:List Op3)(i:Nat):Bool:=(opAt h i).2.1 == 1 && zff h i 2
def zBY(h:List Op3)(i:Nat):Bool:=(opAt h i).2.1 == 2 && zff h i 1
def zB1(h:List Op3)(i:Nat):Bool:=decide ((opAt h i).2.1<=2) && (zff h i 2 || ((opAt h i).2.1 == 2 && zff h i 1))
def zAx(h:List Op3)(i k j:Nat):Bool :=(opAt h i).2.1 == 1 && ((opAt h k).2.1 == 2 && ((opAt h j).2.1 == 2 && ((opAt h i).1 == (opAt h j).1 && ((opAt h i).1 != (opAt h k).1 && ((opAt h i).2.2 == (opAt h k).2.2 && ((opAt h i).2.2 == (opAt h j).2.2 && zgI h (opAt h i).1 == 3))))))
def zB6(h:List Op3)(i k n:Nat):Bool:=zfi (fun j=>decide (k<j) && zAx h i k j) n
def zCf(h:List Op3)(i n:Nat):Bool:=zfi (fun k=>decide (i<k) && zB6 h i k h.length) n
def zzo(h:List Op3)(n:Nat):Bool:=zfi (fun i=>zCf h i h.length) n
def znv(h:List Op3):Nat->Int
 | 0=>-1
 | k+1=>if znv h k<0/\zB1 h k=true then k else znv h k
def zib(h:List Op3):(Bool × Bool × Bool × Bool) × Int:=((zfi (zCc h) h.length,zfi (zCb h) h.length,zfi (zBY h) h.length,zzo h h.length),znv h h.length)
end Go.Proofs.YthlhgiihngcobaaGreatDoor
namespace Go.Proofs.YthlhgiihngcobaaGreatDoor
open Go.RowKit
theorem zkO{x y:Int}(h:x=y):Ending.returned (.int .i64 x)=.returned (.int .i64 y):=by rw[h]
end Go.Proofs.YthlhgiihngcobaaGreatDoor
namespace Go.Proofs.YthlhgiihngcobaaGreatDoor
open Go.RowKit
def zBV(v:Value):Prop:=∃ad n c,v=.slice ad n c/\n<=c
end Go.Proofs.YthlhgiihngcobaaGreatDoor
namespace Go.Proofs.YthlhgiihngcobaaGreatDoor
open Go.RowKit
def zlt(l:List Op3):Bool × Bool × Bool × Bool:=if(chk l).2≠0 then(false,false,false,false)else(zib l).1
def zqL(x:Bool × Bool × Bool × Bool):Value:=.agg #[.bool x.1,.bool x.2.1,.bool x.2.2.1,.bool x.2.2.2]
def zy6:Prop:=∀(l:List Op3) (ad:Option Addr) (cap:Nat) (w:World),zai w (.slice ad l.length cap) l->l.length<=cap->Calls Tryz.prog 27 #[.slice ad l.length cap] w fun e w'=>e=.returned (.tuple #[zqL (zlt l),zeR (chk l).2])/\Below w.heap.size w w'
end Go.Proofs.YthlhgiihngcobaaGreatDoor
