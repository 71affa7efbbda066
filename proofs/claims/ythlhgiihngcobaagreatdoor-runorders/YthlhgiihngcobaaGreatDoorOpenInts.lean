/-
  PROVED HERE: how a list of numbers, as an argument, reads: out of its data; and how long it may be.
  Conditions: none.
  (Of these, what the claim wants: the rest was left out.)
-/
import Derived.Test.YthlhgiihngcobaaGreatDoorChecked
import Derived.Test.YthlhgiihngcobaaGreatDoorMgaj
import Derived.ProofKit
import Derived.OpenShut
import Derived.ChangeSame
import Derived.ChangeVars
import Derived.JoinedOf
import Derived.Stop.Joined
import Derived.Deep.Slices
import Derived.Lib.SmallJoins
import Derived.SizedLaws
set_option maxHeartbeats 32000000
set_option maxRecDepth 100000
namespace Go.Proofs.YthlhgiihngcobaaGreatDoor
open Go.ChangeShapes Go.WideShapes Go.ChangeAt Go.RowKit
theorem zhD:Tryz.prog.cellsOf 3=1:=by kernel_rfl
theorem znG{α:Type}{l:List α}(h:l.length=1):∃a,l=[a]:=by
 match l,h with
 | [a],_=>exact⟨a,rfl⟩
theorem zk4{H:Type}{enc:TypeId × Value->H}{w:World}{fuel:Nat}{a0:Option Addr}{len cap:Nat}{x:DataW H × List MemPlace}
  (h:DataW.trod enc Tryz.prog w 0 (fun _=>true) true fuel 24 [.slice a0 len cap]=some x) :
  ∃(l:List Int) (b off:Nat),l.length=len/\(0<len->a0=some ⟨b,off,none⟩)/\(a0=none->len=0/\cap=0)/\(∀i,i<l.length->w.cell? ⟨b,off+i,none⟩=some (.int .i64 (l.getD i 0)))/\(0<len->.cell b off∈x.2)/\len<=cap:=by
 rcases Deep.open_slice Tryz.underlying24 h with⟨hc,hx⟩ | ⟨a,len',cap',m,n,D,Pl,hc,_,hl,hm,hmm,hx,hall⟩
 ·simp only[List.cons.injEq,and_true,Value.slice.injEq]at hc;obtain⟨rfl,rfl,rfl⟩:=hc;exact⟨[],0,0,rfl,fun h=>absurd h (by omega),fun _=>⟨rfl,rfl⟩,fun i hi=>by simp at hi,fun h=>absurd h (by omega),Nat.le_refl _⟩
 ·simp only[List.cons.injEq,and_true,Value.slice.injEq]at hc;obtain⟨rfl,rfl,rfl⟩:=hc;simp only[if_true]at hmm;subst hmm;rw[zhD]at hall;have each:∀i,i<m->∃o:Int,w.cell? (a.add i)=some (.int .i64 o):=by intro i hi;obtain⟨cs',h1,h2⟩:=hall i hi;obtain⟨_,hlen,hcell⟩:=World.cells?_some h1;obtain⟨v0,rfl⟩:=znG hlen;obtain⟨n0,q0,_,_⟩:=DataW.trod_int Tryz.underlying3 h2;simp only[List.cons.injEq,and_true]at q0;subst q0;have e0:=hcell 0 (by omega);rw[Deep.add_add]at e0;exact⟨n0,by simpa using e0⟩
  by_cases h0:len=0
  ·subst h0;exact⟨[],0,0,rfl,fun h=>absurd h (by omega),fun h=>(by simp at h),fun i hi=>(by simp at hi),fun h=>absurd h (by omega),Nat.zero_le _⟩
  ·obtain⟨b,off,spot⟩:=a;obtain⟨o0,c0⟩:=each 0 (by omega);have hspot:spot=none:=by simpa[Addr.add]using World.cell?_spot c0
   subst hspot;obtain⟨F,hF⟩:=Deep.choose_lt each;refine⟨(List.range len).map F,b,off,by simp,fun _=>rfl,fun h=>(by cases h),fun i hi=>?_,fun _=>?_,hl⟩
   ·have hi':i<len:=by simpa using hi
    have e0:=hF i (by omega);have hget:((List.range len).map F).getD i 0=F i:=by simp[List.getD,hi']
    rw[hget];rw[Addr.add_lit]at e0;exact e0
   ·rw[hx];refine List.mem_append_left _ ?_;rw[zhD];exact MemPlace.mem_row.2 ⟨0,by omega,by simp⟩
end Go.Proofs.YthlhgiihngcobaaGreatDoor
