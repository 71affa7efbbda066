/-
  PROVED HERE: plain facts, with no word of the program; nothing.
  Conditions: none but those that each theorem's own premises say.
-/
import Derived.Test.YthlhgiihngcobaaGreatDoorMgat
import Derived.Test.YthlhgiihngcobaaGreatDoorMgak
import Derived.Test.YthlhgiihngcobaaGreatDoorMgal
import Derived.Test.YthlhgiihngcobaaGreatDoorMgan
set_option maxHeartbeats 32000000
set_option maxRecDepth 100000
namespace Go.Proofs.YthlhgiihngcobaaGreatDoor
theorem zgV{a b:Int}{ps:List Int}(ha:1<=a/\a<=6)(hb:1<=b/\b<=6)(hd:zbe ps){i:Nat}(hi:i<(piecesL a b ps).length)(wh:Int):zb2 (piecesL a b ps) i wh=false:=by
 rw[Bool.eq_false_iff];intro h;obtain⟨m,hm,_,_,hne,he⟩:=zbk.1 h;rw[zaE]at hi;have hop:=((zbT _).1 (zcr ha hb hd)).2.1
 have key:∀x,x<3*ps.length->(opAt (piecesL a b ps) x).1=ps.getD (x / 3) 0:=fun x hx=>by
  obtain⟨h1,h2,h3⟩:=zaw a b ps (x / 3) (by omega);rcases(show x=3*(x / 3)\/x=3*(x / 3)+1\/x=3*(x / 3)+2 by omega)with e | e | e
  ·rw[<-e]at h1;rw[h1]
  ·rw[<-e]at h2;rw[h2]
  ·rw[<-e]at h3;rw[h3]
 have h1:=key m (by omega);have h2:=key i hi
 have hlt:m / 3<i / 3:=by
  rcases Nat.lt_or_ge (m / 3) (i / 3)with e | e
  ·exact e
  ·exact absurd (by rw[h1,h2,show m / 3=i / 3 by omega]) hne
 obtain⟨_,_,h3⟩:=zaw a b ps (m / 3) (by omega);unfold zaJ at he;rw[zd5 _ _ fun o ho=>hop o (List.mem_of_mem_take ho),zdg]at he;refine he (opAt (piecesL a b ps) (3*(m / 3)+2)) ?_ ⟨by rw[h3,h1],by rw[h3];rfl⟩;rw[<-zf9 (n:=i) (show 3*(m / 3)+2<i by omega)];exact zaj (by rw[List.length_take,zaE];omega)
theorem zgI{a b:Int}{ps:List Int}(ha:1<=a/\a<=6)(hb:1<=b/\b<=6)(hd:zbe ps):zod (piecesL a b ps)=(false,false,false,false)/\zml (piecesL a b ps)=(0,5)/\(chk (piecesL a b ps)).2=0/\zg8 (piecesL a b ps)=true:=by
 have hc:=zcr ha hb hd;have ho:=fun i (hi:i<(piecesL a b ps).length) wh=>zgV ha hb hd hi wh;have hr:zg8 (piecesL a b ps)=true:=zbX.2 fun i hi=>by unfold rigAt;rw[ho i hi,ho i hi];simp
 have h1:zcR (zor (piecesL a b ps)) (piecesL a b ps).length=false:=zej.2 fun i hi=>by unfold zor;rw[ho i hi];simp
 have h2:zcR (zos (piecesL a b ps)) (piecesL a b ps).length=false:=zej.2 fun i hi=>by unfold zos;rw[ho i hi];simp
 have h3:zcR (znZ (piecesL a b ps)) (piecesL a b ps).length=false:=zej.2 fun i hi=>by unfold znZ;rw[ho i hi];simp
 have h4:zm1 (piecesL a b ps) (piecesL a b ps).length=false:=by rw[Bool.eq_false_iff];intro h;rw[lost_unrep hc h]at h3;cases h3
 have h5:zcg (piecesL a b ps) (piecesL a b ps).length=-1:=by
  rcases first_spec (piecesL a b ps) (piecesL a b ps).length with⟨h,_⟩ | ⟨k,_,hk,hi,_⟩
  ·exact h
  ·have:=zbX.1 hr k hk;rw[znp,hi]at this;cases this
 refine⟨?_,?_,hc,hr⟩
 ·unfold zod zjK;rw[if_neg (by rw[hc];decide),h1,h2,h3,h4]
 ·unfold zml zjK;rw[if_neg (by rw[hc];decide),h5];rfl
end Go.Proofs.YthlhgiihngcobaaGreatDoor
namespace Go.Proofs.YthlhgiihngcobaaGreatDoor
def zeB(d:List Op3)(o:List Int):Bool:=zbq d (alongL d o)
def zdq(d:List Op3):Option (List Int):=tryO (zac d) (zeB d) (zac d).length []
end Go.Proofs.YthlhgiihngcobaaGreatDoor
