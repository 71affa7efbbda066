/-
  PROVED HERE: lanelaw3.RunBegins returns true for every text and every number: the answers to a beginning are a beginning of the answers, and all arguments read afterwards as they read before.
  Conditions: five package-level variables (errors.errorType, run.errBad and three tables of Go's library) read as their initialisers lay them; the card ties that to the program's text (over the pruned copy of the project that the seat speaks of). errors.As is walked in Go's own text, over the model's entries for internal/reflectlite.
-/
import Derived.Test.YthlhgiihngcobaaGreatDoorRows
import Derived.Test.YthlhgiihngcobaaGreatDoorCards
import Derived.Test.YthlhgiihngcobaaGreatDoorTie
import Derived.Test.YthlhgiihngcobaaGreatDoorMgcb
import Derived.Test.YthlhgiihngcobaaGreatDoorOpenGl
import Derived.Test.YthlhgiihngcobaaGreatDoorChecked
import Derived.ProofKit
import Derived.OpenShut
import Derived.ChangeSame
import Derived.ChangeVars
import Derived.JoinedOf
import Derived.Stop.Joined
import Derived.Lib.SmallJoins
import Derived.SevenTiedAt
import Derived.LaidMore
import Derived.SizedLaws
set_option maxHeartbeats 32000000
set_option maxRecDepth 100000
namespace Go.Proofs.YthlhgiihngcobaaGreatDoor
open Go.ChangeShapes Go.WideShapes Go.ChangeAt Go.RowKit
theorem zg2(os:Os)(started:os.Started)(H:Type)(enc:TypeId × Value->H):ReturnsInHanded {} Tryz.checked os 3 .any (fun w args=>(Rows.runBeginsSpec.pre enc Tryz.prog Tryz.f3 [] false w args/\laidMetH Tryz.prog zhr w)/\sizedMet enc Tryz.prog Tryz.f3 (OpenSpec.ofChange Rows.runBeginsSpec) false w args)
   (Rows.runBeginsSpec.post enc Tryz.prog Tryz.f3 false true false false):=by
 refine returnsInHanded_of_change_and (C:=Tryz.checked) (X:=fun w _=>laidMetH Tryz.prog zhr w) (fun _ _ _ hh h=>h.of_heap hh) own started (by kernel_rfl) Tryz.func3
  (ChangeSpec.witness_shaped (enc:=enc) (C:=Tryz.checked) (os:=os) (X:=fun w _=>laidMetH Tryz.prog zhr w) false (World.doorLaid Tryz.prog 400 os) #[.string ⟨#[]⟩,.int .i64 0] 8 rfl (World.shaped_of_RefB (by kernel_rfl) (by kernel_rfl)) (by kernel_rfl) (by kernel_rfl) (by kernel_rfl) (znh os _)) ?_
 intro W base args ds gs before hval0 hW _ hsize hL _;have hval:∀(j:Nat) t v,Tryz.f3.params[j]? = some t->args[j]? = some v->Value.okWide Tryz.prog W .any base t v:=hval0;have hW':=hW;obtain⟨p,q,hA0,hV,rfl,hfz,hnd⟩:=hW;have hA:DataW.TrodAll enc Tryz.prog W 0 (fun _=>true) true Tryz.f3.params.toList args.toList ds p:=hA0;rw[Tryz.params3]at hA hval;obtain⟨v0,v1,d0,d1,p0,p1,rfl,rfl,rfl,h0,h1⟩:=trodAll_two hA;obtain⟨rfl,rfl⟩:=trodVars_none hV;clear hA0 hval0;simp only[List.append_nil]at hW';have hlt0:∀x∈p0,x.block<W.heap.size:=fun x hx=>by simpa using hW'.lt x (List.mem_append_left _ hx)
 have hlt1:∀x∈p1,x.block<W.heap.size:=fun x hx=>by simpa using hW'.lt x (List.mem_append_right _ (by simpa using hx))
 have h0k:=h0;have h1k:=h1;obtain⟨l0,rfl⟩:=okWide_string Tryz.underlying9 (hval 0 9 v0 rfl rfl);have hz0:l0.size<=9223372036854775807:=by obtain⟨s,hs,_,_,hz⟩:=Go.ChangeMaps.open_string Tryz.underlying9 (hval 0 9 _ rfl rfl) h0;injection hs with hs;rw[hs];exact hz
 obtain⟨l1,rfl⟩:=okWide_int Tryz.underlying3 (hval 1 3 v1 rfl rfl);refine(zxJ zBV zzs l0 l1 W hz0 (zkz hL)).mono fun e W' ⟨he,hb⟩=>?_;subst he;refine⟨_,rfl,_,_,_,[],p0++p1,[],hW',?_,?_,rfl,hb.frame _,fun h=>by cases h⟩
 ·exact trodAll_mk1 (shut_bool Tryz.underlying4 true)
 ·exact trodAll_mk2 (Below.trod zsy (by kernel_rfl) (of_decide_eq_true (by kernel_rfl)) h0k hb hlt0) (Below.trod zsy (by kernel_rfl) (of_decide_eq_true (by kernel_rfl)) h1k hb hlt1)
theorem ze7:Rows.RunBeginsSaid :=
 OpenClaim.holds_of_wide 3 Tryz.f3 rfl rfl rfl rfl rfl rfl rfl ⟨rfl,rfl,rfl,rfl,rfl⟩ rfl rfl rfl rfl rfl (by kernel_rfl) Tryz.func3 (by kernel_rfl)
  (of_decide_eq_true (by kernel_rfl)) (by unfold Func.isWrapper;first | (rw[if_pos (by decide +kernel)];kernel_rfl) | (rw[if_neg (by decide +kernel)];exact⟨rfl,rfl⟩))
  (fun os started H enc _=>zg2 os started H enc)
theorem runBegins_holds:Rows.RunBeginsCardSaid :=
 Claim7.holds_tied_plain_at .later [] [.data,.data,.data,.handle,.sentinel] true Rows.runBeginsCard.stood.harness true
  ze7 (fun _ h=>by cases h) (by kernel_rfl) (fun _ h=>by cases h) runBegins_row_tie rfl ⟨rfl,rfl⟩ (by kernel_rfl) rfl
  (fun f fn hf hfn=>by
   obtain rfl:f=3:=Option.some.inj ((show Tryz.prog.funcNamed "locklane/lanelaw3.RunBegins" = some 3 by kernel_rfl).symm.trans hf) |>.symm;obtain rfl:fn=Tryz.f3:=(Option.some.inj (Tryz.func3.symm.trans hfn)).symm
   exact⟨by kernel_rfl,fun j t ht=>by
    rw[Tryz.params3]at ht;rcases j with _ | _ | j
    ·have h3:t=9:=by simpa using ht.symm
     subst h3;exact(show Tryz.prog.wantsStandIn 9=false by kernel_rfl)
    ·have h3:t=3:=by simpa using ht.symm
     subst h3;exact(show Tryz.prog.wantsStandIn 3=false by kernel_rfl)
    ·simp at ht⟩)
  (by kernel_rfl)
#print axioms runBegins_holds
end Go.Proofs.YthlhgiihngcobaaGreatDoor
