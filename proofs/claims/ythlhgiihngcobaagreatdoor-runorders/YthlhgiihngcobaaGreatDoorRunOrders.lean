/-
  PROVED HERE: lanelaw3.RunOrders returns true for every list of numbers: a session orders the deals that it makes of them, and all arguments read afterwards as they read before.
  Conditions: five package-level variables (errors.errorType, run.errBad and three tables of Go's library) read as their initialisers lay them; the card ties that to the program's text (over the pruned copy of the project that the seat speaks of). errors.As is walked in Go's own text, over the model's entries for internal/reflectlite.
-/
import Derived.Test.YthlhgiihngcobaaGreatDoorRows
import Derived.Test.YthlhgiihngcobaaGreatDoorCards
import Derived.Test.YthlhgiihngcobaaGreatDoorTie
import Derived.Test.YthlhgiihngcobaaGreatDoorMgca
import Derived.Test.YthlhgiihngcobaaGreatDoorMgaq
import Derived.Test.YthlhgiihngcobaaGreatDoorOpenGl
import Derived.Test.YthlhgiihngcobaaGreatDoorOpenInts
import Derived.SevenTiedAt
import Derived.LaidMore
import Derived.SizedLaws
set_option maxHeartbeats 32000000
set_option maxRecDepth 100000
namespace Go.Proofs.YthlhgiihngcobaaGreatDoor
open Go.ChangeShapes Go.WideShapes Go.ChangeAt Go.RowKit
theorem zdJ(os:Os)(started:os.Started)(H:Type)(enc:TypeId × Value->H):ReturnsInHanded {} Tryz.checked os 4 .any (fun w args=>(Rows.runOrdersSpec.pre enc Tryz.prog Tryz.f4 [] false w args/\laidMetH Tryz.prog zdY w)/\sizedMet enc Tryz.prog Tryz.f4 (OpenSpec.ofChange Rows.runOrdersSpec) false w args)
   (Rows.runOrdersSpec.post enc Tryz.prog Tryz.f4 false true false false):=by
 refine returnsInHanded_of_change_and (C:=Tryz.checked) (X:=fun w _=>laidMetH Tryz.prog zdY w) (fun _ _ _ hh h=>h.of_heap hh) own started (by kernel_rfl) Tryz.func4
  (ChangeSpec.witness_shaped (enc:=enc) (C:=Tryz.checked) (os:=os) (X:=fun w _=>laidMetH Tryz.prog zdY w) false (World.doorLaid Tryz.prog 400 os) #[.slice none 0 0] 8 rfl (World.shaped_of_RefB (by kernel_rfl) (by kernel_rfl)) (by kernel_rfl) (by kernel_rfl) (by kernel_rfl) (zgU os _)) ?_
 intro W base args ds gs before hval0 hW _ hsize hL _;have hval:∀(j:Nat) t v,Tryz.f4.params[j]? = some t->args[j]? = some v->Value.okWide Tryz.prog W .any base t v:=hval0;have hW':=hW;obtain⟨p,q,hA0,hV,rfl,hfz,hnd⟩:=hW;have hA:DataW.TrodAll enc Tryz.prog W 0 (fun _=>true) true Tryz.f4.params.toList args.toList ds p:=hA0;rw[Tryz.params4]at hA hval;obtain⟨v0,d0,rfl,rfl,h0⟩:=trodAll_one hA;obtain⟨rfl,rfl⟩:=trodVars_none hV;clear hA0 hval0;simp only[List.append_nil]at hW';have hlt0:∀x∈p,x.block<W.heap.size:=fun x hx=>by simpa using hW'.lt x hx
 have h0k:=h0;obtain⟨a0,len0,cap0,rfl⟩:=okWide_slice Tryz.underlying24 (hval 0 24 v0 rfl rfl);obtain⟨fuel0,hf0⟩:=h0;have hf0':=(by simpa[Value.cells]using hf0:DataW.trod enc Tryz.prog W 0 (fun _=>true) true fuel0 24 [.slice a0 len0 cap0]=some (d0,p));obtain⟨l0,b0,off0,rfl,ha0,hn0,hc0,hmem0,_⟩:=zk4 hf0'
 have hbB0:b0<W.heap.size\/l0=[]:=by
  rcases Nat.eq_zero_or_pos l0.length with h | h
  ·exact .inr (List.length_eq_zero_iff.1 h)
  ·exact .inl (hlt0 _ (hmem0 h))
 refine(zl3 zoA (zol zoi) l0 (.slice a0 l0.length cap0) W ⟨a0,b0,off0,cap0,rfl,ha0,hn0,hbB0,hc0⟩ (zfi hL)).mono fun e W' ⟨he,hb⟩=>?_;subst he;refine⟨_,rfl,_,_,_,[],p,[],hW',?_,?_,rfl,hb.frame _,fun h=>by cases h⟩
 ·exact trodAll_mk1 (shut_bool Tryz.underlying4 true)
 ·exact trodAll_mk1 (Below.trod znf (by kernel_rfl) (of_decide_eq_true (by kernel_rfl)) h0k hb hlt0)
theorem zcI:Rows.RunOrdersSaid :=
 OpenClaim.holds_of_wide 4 Tryz.f4 rfl rfl rfl rfl rfl rfl rfl ⟨rfl,rfl,rfl,rfl,rfl⟩ rfl rfl rfl rfl rfl (by kernel_rfl) Tryz.func4 (by kernel_rfl)
  (of_decide_eq_true (by kernel_rfl)) (by unfold Func.isWrapper;first | (rw[if_pos (by decide +kernel)];kernel_rfl) | (rw[if_neg (by decide +kernel)];exact⟨rfl,rfl⟩))
  (fun os started H enc _=>zdJ os started H enc)
theorem runOrders_holds:Rows.RunOrdersCardSaid :=
 Claim7.holds_tied_plain_at .later [] [.data,.data,.data,.handle,.sentinel] true Rows.runOrdersCard.stood.harness true
  zcI (fun _ h=>by cases h) (by kernel_rfl) (fun _ h=>by cases h) runOrders_row_tie rfl ⟨rfl,rfl⟩ (by kernel_rfl) rfl
  (fun f fn hf hfn=>by
   obtain rfl:f=4:=Option.some.inj ((show Tryz.prog.funcNamed "locklane/lanelaw3.RunOrders" = some 4 by kernel_rfl).symm.trans hf) |>.symm;obtain rfl:fn=Tryz.f4:=(Option.some.inj (Tryz.func4.symm.trans hfn)).symm
   exact⟨by kernel_rfl,fun j t ht=>by
    rw[Tryz.params4]at ht;rcases j with _ | j
    ·have h3:t=24:=by simpa using ht.symm
     subst h3;exact(show Tryz.prog.wantsStandIn 24=false by kernel_rfl)
    ·simp at ht⟩)
  (by kernel_rfl)
#print axioms runOrders_holds
end Go.Proofs.YthlhgiihngcobaaGreatDoor
