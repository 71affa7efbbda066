/-
  PROVED HERE: strings.Join with one blank between, strconv.Itoa of a number of at most seven digits; package run's those, faceWords, illWords.
  Conditions: none but those that each theorem's own premises say.
-/
import Derived.Test.YthlhgiihngcobaaGreatDoorMgaz
import Derived.Test.YthlhgiihngcobaaGreatDoorMgba
import Derived.Shelf.Strings.OnBuilder
import Derived.Shelf.Strconv.Itoa3
import Derived.Lib.AppendIntMem
set_option maxHeartbeats 32000000
set_option maxRecDepth 100000
namespace Go.Proofs.YthlhgiihngcobaaGreatDoor
open Go.RowKit
theorem zmY:ziV:=fun bk o c xs w hc hb hn hcap hl=>by
 have e:(xs.map fun x=>(⟨x.toArray⟩:ByteArray)).map (·.data.toList)=xs:=by rw[List.map_map];simp[Function.comp_def]
 have h:=Any.strings_Join Tryz.lays156 Tryz.Builder_Extra_156 bk o c (xs.map fun x=>⟨x.toArray⟩) ⟨#[32]⟩ w (fun j x hx=>by obtain⟨y,hy,rfl⟩:=Option.map_eq_some_iff.1 ((List.getElem?_map ..).symm.trans hx);exact hc j y hy) hb (by rw[List.length_map];omega) (by rw[List.length_map];omega) (by rw[e];exact Nat.le_trans hl (by decide));rw[e,List.length_map]at h;exact h
theorem zof:zn5:=fun n w h0 h1 hp =>(Any.strconv_Itoa Tryz.laysM171 n (by omega) (by omega) w hp).mono fun e w' ⟨he,k,os,hw⟩=>⟨he,by rw[hw];exact Lib.below_grow _ w (Nat.le_refl _) k os⟩
end Go.Proofs.YthlhgiihngcobaaGreatDoor
namespace Go.Proofs.YthlhgiihngcobaaGreatDoor
open Go.RowKit
theorem zkV(hJ:ziV)(ws:List (List UInt8 × Bool))(b cap:Nat)(w:World)(hl:ws.length<=10)(hw:∀x∈ws,x.1.length<=20)(hb:b<w.heap.size)
  (hc:∀k,k<ws.length->w.cell? ⟨b,k*2,none⟩=some (zay (ws.getD k ([],false)).1)/\w.cell? ⟨b,k*2+1,none⟩=some (.bool (ws.getD k ([],false)).2)) :
  Calls Tryz.prog 59 #[.slice (some ⟨b,0,none⟩) ws.length cap] w fun e w'=>e=.returned (zay (zeP ((ws.filter fun x=>x.2).map fun x=>x.1)))/\Below w.heap.size w w':=by
 obtain⟨N,hN⟩:∃n,ws.length=n:=⟨_,rfl⟩;obtain⟨F,hF⟩:∃F:Nat->List (List UInt8),F=fun k=>((ws.take k).filter fun x=>x.2).map fun x=>x.1:=⟨_,rfl⟩;have HF:Hid (F N=((ws.filter fun x=>x.2).map fun x=>x.1)):=by show F N=_;simp only[hF];rw[List.take_of_length_le (by omega)]
 have HL:Hid (∀k,k<=N->(F k).length<=k/\∀x∈F k,x.length<=20):=fun k hk=>by
  simp only[hF];refine⟨?_,fun x hx=>?_⟩
  ·rw[List.length_map];exact Nat.le_trans (List.length_filter_le _ _) (List.length_take_le _ _)
  ·obtain⟨y,hy,rfl⟩:=List.mem_map.1 hx;exact hw y (List.mem_of_mem_take (List.mem_filter.1 hy).1)
 have HS:Hid (∀k,k<N->F (k+1)=F k++(if(ws.getD k ([],false)).2=true then[(ws.getD k ([],false)).1]else[])):=fun k hk=>by
  rw[hF];show((ws.take (k+1)).filter _).map _=((ws.take k).filter _).map _++_;have hk':k<ws.length:=by omega
  have hg:ws.getD k ([],false)=ws[k]:=by simp[List.getD,List.getElem?_eq_getElem hk']
  rw[hg,List.take_succ_eq_append_getElem hk',List.filter_append,List.map_append];congr 1;cases hx:ws[k].2 <;> simp[hx]
 have HC:Hid (∀W,Below w.heap.size w W->∀k,k<N->W.cell? ⟨b,k*2,none⟩=some (zay (ws.getD k ([],false)).1)/\W.cell? ⟨b,k*2+1,none⟩=some (.bool (ws.getD k ([],false)).2)):=fun W hW k hk=>by have h:=hc k (by omega);exact⟨(hW.cell (p:=⟨b,k*2,none⟩) hb).trans h.1,(hW.cell (p:=⟨b,k*2+1,none⟩) hb).trans h.2⟩
 have F0:F 0=[]:=by rw[hF];rfl
 have HJ:=zaf hJ;obtain⟨i0,hi,hz0,hz1,hz2⟩:=info_parts zkw;have HI:Hid (Tryz.prog.info? 9=some i0/\i0.zero=some (.string ⟨#[]⟩)/\i0.size=1/\i0.bytes=16):=⟨hi,hz0,hz1,hz2⟩;rw[hN]at hl ⊢;have HFN:=zaf F0;clear hi hz0 hz1 hz2 hJ hc hw hN hF F0 hb;go_enter Tryz.func59,Tryz.ntmps59;go_wp2_with fail
 go_loopw [3,8] (fun v3 v8 wr=>∃k:Nat,k<=N/\v8=.int .i64 k/\wr.ownsRow w.heap.size 9 1 v3 (F k).length ((F k).map zay)/\Below w.heap.size w wr) (fun _ v8 _=>N-(intOf v8).toNat)
 case atStart=>exact⟨0,Nat.zero_le _,rfl,by rw[HFN.out];exact World.ownsRow_nil _ _ _ _,Below.refl _ _⟩
 case round =>
  obtain⟨k,hk,rfl,hown,hbel⟩:=hrel;obtain⟨m,hm⟩:∃m,(F k).length=m:=⟨_,rfl⟩;have hmk:m<=k:=by have:=(HL.out k hk).1;omega
  rw[hm]at hown;have HM:=zaf hm;clear hm;obtain⟨ad3,cap3,rfl⟩:=zcb hown;have HOW:=zaf hown;have HB:=zaf hbel;have hsz:=hbel.size;by_cases hlt:k<N
  ·have hlt':(k:Int)<(N:Int):=by omega
   obtain⟨c0,c1⟩:=HC.out wr hbel k hlt;have HT:=zaf (HS.out k hlt);obtain⟨⟨t,so⟩,hd⟩:∃d,ws.getD k ([],false)=d:=⟨_,rfl⟩;rw[hd]at c0 c1 HT;simp only at c0 c1;have HBA:Hid (Below w.heap.size w (wr.alloc (.cells #[zay t,.bool so] 117))):=hbel.alloc hsz _;have HOA:=zaf (hown.alloc (.cells #[zay t,.bool so] 117));clear hd hown hbel;cases so with
   | false =>
     go_wp2_with fail;go_roundw
     case rel=>exact⟨k+1,by omega,by go_num,by rw[HT.out];simp only[Bool.false_eq_true,if_false,List.append_nil];rw[HM.out];exact HOA.out,HBA.out⟩
     case measure=>simp[intOf];omega
   | true =>
     go_wp2_with (at_builtin;refine wpList_append_own _ rfl (.tmp 14) (.tmp 17) 86 rfl w.heap.size 9 i0 (.string ⟨#[]⟩) 1 16 Tryz.underlying86 HI.out.1 HI.out.2.1 HI.out.2.2.1 HI.out.2.2.2 rfl (by decide) (.slice ad3 m cap3) m ((F k).map zay) rfl (HOA.out.alloc _) ⟨wr.heap.size+1,0,none⟩ 1 1 [zay t] rfl rfl (by have:=cell_one_new (wr.alloc (.cells #[zay t,.bool true] 117)) (zay t) 9;simpa using this) (by simp[Value.oneCell']) (by unfold maxLen;omega) (by omega) (by simp;omega) ?_;intro v2 w2 hown2 hgr2 hnil2;obtain⟨g2,cap2,rfl⟩:=ownsRow_succ hown2);have HB2:Below w.heap.size w w2:=(HBA.out.alloc (by simp;omega) _).grown hgr2 (by simp;omega) (fun m hm=>(HOA.out.lt m hm).1);go_roundw
     case rel=>exact⟨k+1,by omega,by go_num,by rw[HT.out];simp only[if_true,List.length_append,List.map_append,HM.out];exact hown2,HB2⟩
     case measure=>simp[intOf];omega
  ·have hlt':¬(k:Int)<(N:Int):=by omega
   obtain rfl:k=N:=by omega
   have HCJ:=zaf (zfZ HJ.out w.heap.size m (F k) _ wr HM.out hown (by omega) (by have h1:=zhO 20 (F k) (HL.out k hk).2;have h2:=(HL.out k hk).1;omega));clear hown hbel;go_wp2_with (go_at_call 43;refine HCJ.out.mono ?_;rintro e w1 ⟨rfl,hb1⟩);go_ret;exact⟨by rw[<-HF.out];rfl,HB.out.trans (hb1.mono hsz)⟩
end Go.Proofs.YthlhgiihngcobaaGreatDoor
