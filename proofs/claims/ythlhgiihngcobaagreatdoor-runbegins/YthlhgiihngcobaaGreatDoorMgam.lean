/-
  PROVED HERE: plain facts, with no word of the program; laneref1.End answers as the plain function endOf says of the first ops of a list; laneref1.Done gives, of a right list, the ops of the deals that commit; nothing yet of package ills.
  Conditions: none but those that each theorem's own premises say.
-/
import Derived.Test.YthlhgiihngcobaaGreatDoorMgal
import Derived.Test.YthlhgiihngcobaaGreatDoorMgag
import Derived.Deep.QuietTactic
import Derived.BigQuiet
import Derived.WalkSmall
import Derived.Test.YthlhgiihngcobaaGreatDoorMgah
namespace Go.Proofs.YthlhgiihngcobaaGreatDoor
theorem isOp_kindsI {o:Op3}(h:isOpB o=true):o.2.1=1∨o.2.1=2∨((o.2.1=3∨o.2.1=4)∧o.2.2=0):=by
 simp only[isOpB,zaS,Bool.and_eq_true,Bool.not_eq_true',Bool.or_eq_false_iff,decide_eq_false_iff_not]at h
 obtain⟨⟨⟨⟨h1,h2⟩,h3⟩,h4⟩,h5⟩:=h
 rcases(show o.2.1=1∨o.2.1=2∨o.2.1=3∨o.2.1=4 by omega)with e|e|e|e
 ·exact .inl e
 ·exact .inr(.inl e)
 ·rw[e]at h5;simp at h5;exact .inr(.inr⟨.inl e,h5⟩)
 ·rw[e]at h5;simp at h5;exact .inr(.inr⟨.inr e,h5⟩)
def zfC(p:Nat→Bool)(n:Nat):Bool:=(List.range n).any p
theorem zcU {p:Nat→Bool} {n:Nat}:zfC p n=true↔∃i,i<n∧p i=true:=by unfold zfC;simp
def zC7(h:List Op3)(i:Nat):Bool:=(opAt h i).2.1 == 2 && zfu h i 2
def zDm(h:List Op3)(i:Nat):Bool:=(opAt h i).2.1 == 1 && zfu h i 2
def zDk(h:List Op3)(i:Nat):Bool:=(opAt h i).2.1 == 2 && zfu h i 1
def zDc(h:List Op3)(i:Nat):Bool:=decide((opAt h i).2.1≤2) && (zfu h i 2 || ((opAt h i).2.1 == 2 && zfu h i 1))
def zAA(h:List Op3)(i k j:Nat):Bool :=
 (opAt h i).2.1 == 1 && ((opAt h k).2.1 == 2 && ((opAt h j).2.1 == 2 && ((opAt h i).1 == (opAt h j).1 && ((opAt h i).1 != (opAt h k).1 && ((opAt h i).2.2 == (opAt h k).2.2 && ((opAt h i).2.2 == (opAt h j).2.2 && zgZ h(opAt h i).1 == 3))))))
def zDa(h:List Op3)(i k n:Nat):Bool:=zfC(fun j=>decide(k<j) && zAA h i k j)n
def zDn(h:List Op3)(i n:Nat):Bool:=zfC(fun k=>decide(i<k) && zDa h i k h.length)n
def zz6(h:List Op3)(n:Nat):Bool:=zfC(fun i=>zDn h i h.length)n
def zoq(h:List Op3):Nat→Int
 | 0=>-1
 | k+1=>if zoq h k<0∧zDc h k=true then k else zoq h k
def ziA(h:List Op3):(Bool × Bool × Bool × Bool) × Int:=((zfC(zC7 h)h.length,zfC(zDm h)h.length,zfC(zDk h)h.length,zz6 h h.length),zoq h h.length)
open Go.RowKit
theorem zk8 {x y:Int}(h:x=y):Ending.returned(.int .i64 x)=.returned(.int .i64 y):=by rw[h]
def zC1(v:Value):Prop:=∃ad n c,v=.slice ad n c∧n≤c
def zml(l:List Op3):Bool × Bool × Bool × Bool:=if(chk l).2≠0 then(false,false,false,false)else(ziA l).1
def zr5(x:Bool × Bool × Bool × Bool):Value:=.agg #[.bool x.1,.bool x.2.1,.bool x.2.2.1,.bool x.2.2.2]
def zBF:Prop:=∀(l:List Op3)(ad:Option Addr)(cap:Nat)(w:World),zai w(.slice ad l.length cap)l→l.length≤cap→Calls Tryz.prog 27 #[.slice ad l.length cap]w fun e w'=>e=.returned(.tuple #[zr5(zml l),zfc(chk l).2])∧Below w.heap.size w w'
end Go.Proofs.YthlhgiihngcobaaGreatDoor
