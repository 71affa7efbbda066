/-
  PROVED HERE: plain facts, with no word of the program; plain facts, with no word of the program.
  Conditions: none but those that each theorem's own premises say.
-/
import Derived.Test.YthlhgiihngcobaaGreatDoorMgam
import Derived.Test.YthlhgiihngcobaaGreatDoorMgan
import Derived.Test.YthlhgiihngcobaaGreatDoorMgak
set_option maxHeartbeats 32000000
set_option maxRecDepth 100000
namespace Go.Proofs.YthlhgiihngcobaaGreatDoor
theorem ziw{ds:List Int}{p:List Int->Bool}:∀(f:Nat) (b r:List Int),zcC ds b->tryO ds p f b=some r->p r=true/\zcC ds r/\r.length=b.length+f:=by
 intro f
 induction f with
 | zero =>
   intro b r hB h;rw[tryO]at h;split at h
   ·obtain rfl:=Option.some.inj h;rename_i hp;exact⟨hp,hB,rfl⟩
   ·cases h
 | succ f ih =>
   intro b r hB h;rw[tryO]at h;obtain⟨t,ht,h1⟩:=List.exists_of_findSome?_eq_some h;split at h1
   ·cases h1
   ·rename_i hb;obtain⟨h2,h3,h4⟩:=ih (b++[t]) r (hB.snoc ht (by simpa using hb)) h1;exact⟨h2,h3,by rw[h4];simp;omega⟩
end Go.Proofs.YthlhgiihngcobaaGreatDoor
namespace Go.Proofs.YthlhgiihngcobaaGreatDoor
theorem zeZ{ps:List Int}(h:zbe ps):∀o∈piecesL 1 1 ps,isOpB o=true:=(zbT _).1 (zcr (by omega) (by omega) h) |>.2.1
theorem zdW{ps:List Int}{i:Nat}(hi:i<(piecesL 1 1 ps).length)(h1:(opAt (piecesL 1 1 ps) i).2.1=1):∃m,m<ps.length/\i=3*m:=by
 rw[zaE]at hi;obtain⟨a1,a2,a3⟩:=zaw 1 1 ps (i / 3) (by omega);rcases(show i=3*(i / 3)\/i=3*(i / 3)+1\/i=3*(i / 3)+2 by omega)with e | e | e
 ·exact⟨i / 3,by omega,e⟩
 ·rw[e,a2]at h1;cases h1
 ·rw[e,a3]at h1;cases h1
theorem zbB{ps:List Int}{m:Nat}(hm:m<ps.length):(m=0->zb7 (piecesL 1 1 ps) (3*m)=zN)/\(0<m->(zb7 (piecesL 1 1 ps) (3*m)).1=(ps.getD (m-1) 0,2,1)):=by
 obtain⟨a1,-,-⟩:=zaw 1 1 ps m hm;unfold zb7;rw[a1,if_pos rfl];refine⟨fun h=>by subst h;exact zif _ _,fun h=>?_⟩;obtain⟨b1,b2,b3⟩:=zaw 1 1 ps (m-1) (by omega);have e:3*m=3*(m-1)+2+1:=by omega
 rw[e,zdv (by rw[b3];simp)];rw[show 3*(m-1)+2=3*(m-1)+1+1 by omega,zfU (by rw[b2]) (by rw[b2])];show opAt _ _=_;rw[b2]
theorem zht{ps qs:List Int}(hp:zbe ps)(h:zbq (piecesL 1 1 ps) (piecesL 1 1 qs)=true):qs=ps:=by
 obtain⟨hl,hs,-⟩:=zbE.1 h;rw[zaE,zaE]at hl;have hl':qs.length=ps.length:=by omega
 have key:∀j,j<qs.length->ps.getD j 0=qs.getD j 0:=by
  intro j
  induction j with
  | zero =>
    intro hj;obtain⟨i,hi,hn,hsr⟩:=zb9.1 (hs (3*0) (by rw[zaE];omega));obtain⟨a1,-,-⟩:=zaw 1 1 qs 0 hj;have ho:opAt (piecesL 1 1 ps) i=opAt (piecesL 1 1 qs) (3*0):=congrArg Prod.fst hn;rw[a1]at ho;obtain⟨m,hm,rfl⟩:=zdW hi (by rw[ho]);obtain⟨c1,-,-⟩:=zaw 1 1 ps m hm;rw[c1]at ho;rw[(zbB hj).1 rfl]at hsr;rcases Nat.eq_zero_or_pos m with e | e
    ·subst e;exact congrArg Prod.fst ho
    ·have h1:=(zbB hm).2 e;rw[hsr]at h1;have h2:=congrArg Prod.fst (congrArg Prod.snd h1);cases h2
  | succ j ih =>
    intro hj;have ih:=ih (by omega);obtain⟨i,hi,hn,hsr⟩:=zb9.1 (hs (3*(j+1)) (by rw[zaE];omega));obtain⟨a1,-,-⟩:=zaw 1 1 qs (j+1) hj;have ho:opAt (piecesL 1 1 ps) i=opAt (piecesL 1 1 qs) (3*(j+1)):=congrArg Prod.fst hn;rw[a1]at ho;obtain⟨m,hm,rfl⟩:=zdW hi (by rw[ho]);obtain⟨c1,-,-⟩:=zaw 1 1 ps m hm;rw[c1]at ho;have hg:=(zbB hj).2 (by omega);rw[<-hsr]at hg;rcases Nat.eq_zero_or_pos m with e | e
    ·subst e;rw[(zbB hm).1 rfl]at hg;have h2:=congrArg Prod.fst (congrArg Prod.snd hg);cases h2
    ·have h1:=(zbB hm).2 e;rw[hg]at h1;have h2:=congrArg Prod.fst h1;simp only[Nat.add_sub_cancel]at h2;rw[<-ih]at h2;have hj1:j<ps.length:=by omega
     have hm1:m-1<ps.length:=by omega
     have e3:j=m-1:=by
      have hx:ps[j]=ps[m-1]:=by simpa[List.getD,List.getElem?_eq_getElem hj1,List.getElem?_eq_getElem hm1]using h2
      exact(List.getElem_inj hp.once).1 hx
     have e4:m=j+1:=by omega
     rw[e4]at ho;exact congrArg Prod.fst ho
 refine List.ext_getElem hl' fun j h1 h2=>?_;have:=key j h1;simpa[List.getD,List.getElem?_eq_getElem h1,List.getElem?_eq_getElem h2]using this.symm
end Go.Proofs.YthlhgiihngcobaaGreatDoor
