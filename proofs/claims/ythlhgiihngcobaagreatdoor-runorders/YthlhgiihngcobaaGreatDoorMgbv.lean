/-
  PROVED HERE: lanelaw3.IllsFaces answers true, of any ops, over whatever keeps IllsOfC, IllsFirstC and FacesC; package faces' Of answers in one sentence, right history or not (FacesC).
  Conditions: none but those that each theorem's own premises say.
-/
import Derived.Test.YthlhgiihngcobaaGreatDoorMgau
import Derived.Test.YthlhgiihngcobaaGreatDoorMgaf
import Derived.Deep.Cut
import Derived.Test.YthlhgiihngcobaaGreatDoorMgbu
set_option maxHeartbeats 32000000
set_option maxRecDepth 100000
namespace Go.Proofs.YthlhgiihngcobaaGreatDoor
open Go.RowKit
def zeR(l:List Op3):Bool × Bool × Bool × Bool:=if(chk l).2≠0 then(false,false,false,false)else(zi6 l,ziR l,ziG l,zg8 l)
def znH:Prop:=∀(l:List Op3) (ad:Option Addr) (cap:Nat) (w:World),zal w (.slice ad l.length cap) l->l.length<=cap->Calls Tryz.prog 25 #[.slice ad l.length cap] w fun e w'=>e=.returned (.tuple #[zlA (zeR l),znR (chk l).2])/\Below w.heap.size w w'
end Go.Proofs.YthlhgiihngcobaaGreatDoor
namespace Go.Proofs.YthlhgiihngcobaaGreatDoor
open Go.RowKit
theorem znK:znH:=by
 intro l ad cap w hI hcap;by_cases hc:(chk l).2=0
 ·refine(zn9 l ad cap w hI hcap hc).mono fun e w' ⟨he,hb⟩=>⟨?_,hb⟩;rw[he,hc];unfold zeR zlA;rw[if_neg (by rw[hc];decide)];rfl
 ·refine(znn l _ w hI hc).mono fun e w' ⟨he,hb⟩=>⟨?_,hb⟩;rw[he];unfold zeR zlA znR;rw[if_pos hc,if_neg hc]
end Go.Proofs.YthlhgiihngcobaaGreatDoor
