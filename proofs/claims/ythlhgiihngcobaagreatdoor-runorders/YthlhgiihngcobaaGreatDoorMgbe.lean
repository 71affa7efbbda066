/-
  PROVED HERE: slices.Contains, Equal, Sort and Clone at lists of numbers, in the words of these texts; serial.weave lays rising numbers between those of an order, each as soon as it is less than the next one of.
  Conditions: none but those that each theorem's own premises say.
-/
import Derived.Test.YthlhgiihngcobaaGreatDoorMgba
import Derived.Test.YthlhgiihngcobaaGreatDoorMgaj
import Derived.Test.YthlhgiihngcobaaGreatDoorMgbd
import Derived.Sort.OwnSortedInts
import Derived.Deep.Onto
import Derived.Laws.AppendOwnNone
import Derived.Lib.SliceRun
import Derived.WalkSmall
import Derived.Test.YthlhgiihngcobaaGreatDoorMgak
set_option maxHeartbeats 32000000
set_option maxRecDepth 100000
namespace Go.Proofs.YthlhgiihngcobaaGreatDoor
open Go.RowKit Go.Sort
theorem contains_ints(l:List Int)(v:Value)(x:Int)(w:World)(hI:zak w v l)(hl:l.length<=1000):Calls Tryz.prog 48 #[v,.int .i64 x] w fun e w'=>e=.returned (.bool (inB l x))/\w'=w:=by
 obtain⟨ad,b,off,cap,rfl,ha,-,-,hc⟩:=hI;by_cases h0:l=[]
 ·subst h0;exact Any.slices_Contains_int_empty Tryz.lays107 ad cap x w
 ·obtain rfl:=ha (List.length_pos_iff.2 h0);refine(Any.slices_Contains_int Tryz.lays107 b off l.length cap l x w (Nat.le_refl _) (by omega) hc).mono ?_;rintro e w' ⟨he,hw⟩;rw[List.take_length]at he;exact⟨he,hw⟩
theorem zkm{l m:List Int}(h:l.length≠m.length):(l == m)=false:=by rw[beq_eq_false_iff_ne];intro e;exact h (by rw[e])
theorem zh9(l m:List Int)(u v:Value)(w:World)(hu:zak w u l)(hv:zak w v m)(hl:l.length<=1000)(hm:m.length<=1000):Calls Tryz.prog 186 #[u,v] w fun e w'=>e=.returned (.bool (l == m))/\Below w.heap.size w w':=by
 obtain⟨ad,b,off,cap,rfl,ha,-,-,hc⟩:=hu;obtain⟨ad2,b2,off2,cap2,rfl,ha2,-,-,hc2⟩:=hv;by_cases hlm:l.length=m.length
 ·by_cases h0:l=[]
  ·subst h0;refine(Any.slices_Equal_int_empty Tryz.lays111 ad ad2 cap m.length cap2 w (by omega)).mono ?_;rintro e w' ⟨he,rfl⟩;have hm0:m=[]:=List.length_eq_zero_iff.1 hlm.symm;subst hm0;exact⟨he,Below.refl _ _⟩
  ·have hp:=List.length_pos_iff.2 h0;obtain rfl:=ha hp;obtain rfl:=ha2 (by omega);refine(Any.slices_Equal_int Tryz.lays111 b off l.length cap b2 off2 m.length cap2 l m w (Nat.le_refl _) (Nat.le_refl _) (by omega) (by omega) hc hc2).mono ?_;rintro e w' ⟨he,q,rfl⟩;rw[List.take_length,List.take_length]at he;exact⟨he,below_drewN (Below.refl _ _) _⟩
 ·refine(Any.slices_Equal_int_lens Tryz.lays111 ad ad2 l.length cap m.length cap2 w hlm).mono ?_;rintro e w' ⟨he,hw⟩;exact⟨by rw[he,zkm hlm],by rw[hw];exact Below.refl _ _⟩
theorem sort_own(zs:List Int)(v:Value)(base n:Nat)(w:World)(hn:zs.length=n)(hl:zs.length<=1000)(h:w.ownsRow base 3 1 v n (zs.map (Value.int .i64))):Calls Tryz.prog 185 #[v] w fun e w'=>e=.returned (.tuple #[])/\w'.ownsRow base 3 1 v n ((za6 zs).map (Value.int .i64))/\w.grownBy w' v.ownBlock:=by
 subst hn;obtain⟨h0,⟨hv,hz⟩ | ⟨g,cap,cur,hv,hbase,hb,h1,h2,h3,h4⟩⟩:=h
 ·subst hv;refine(Any.slices_Sort_int_none Tryz.lays189 none 0 w).mono ?_;rintro e w' ⟨he,hw⟩;have e0:zs=[]:=List.length_eq_zero_iff.1 hz;subst e0;rw[hw];exact⟨he,⟨by simp[za6],.inl ⟨rfl,rfl⟩⟩,⟨rfl,rfl,rfl,Nat.le_refl _,fun _ _ _=>rfl⟩⟩
 ·subst hv;refine(Any.slices_Sort_int Tryz.lays189 g 0 cap zs w (holds_of_blockI hb (by simpa using h4)) (Array.getElem?_eq_some_iff.1 hb).1 (by omega)).mono ?_;rintro e w' ⟨he,n,os,hw⟩;rw[hw];exact⟨he,ownsRow_sortedI (zaD zs).length_eq hbase hb h1 h2 h3,grownBy_sortedI _⟩
end Go.Proofs.YthlhgiihngcobaaGreatDoor
namespace Go.Proofs.YthlhgiihngcobaaGreatDoor
open Go.RowKit
def zgB(w:World)(v:Value)(l:List Int):Prop :=∃(ad:Option Addr) (b off cap:Nat),v=.slice ad l.length cap/\l.length<=cap/\(0<l.length->ad=some ⟨b,off,none⟩)/\(ad=none->cap=0)/\(b<w.heap.size\/l=[])/\∀i,i<l.length->w.cell? ⟨b,off+i,none⟩=some (.int .i64 (l.getD i 0))
theorem zj7{b:Int}{bs fr:List Int}(h:∀f r,fr=f::r->¬f<b):weaveL (b::bs) fr=b::weaveL bs fr:=by
 cases fr with
 | nil=>simp[weaveL]
 | cons f r=>exact zdk (h f r rfl)
def zov:Value->Nat
 | .slice _ n _=>n
 | _=>0
theorem zjA(bs fr:List Int)(u v:Value)(w:World)(hu:zak w u bs)(hv:zgB w v fr)(hbl:bs.length<=10)(hfl:fr.length<=10):Calls Tryz.prog 49 #[u,v] w fun e w'=>∃v',e=.returned v'/\zak w' v' (weaveL bs fr)/\Below w.heap.size w w':=by
 obtain⟨ad,b,off,cap,rfl,ha,-,hbB,hc⟩:=hu
 have HU:Hid (∀W,Below w.heap.size w W->∀k,k<bs.length->ad=some ⟨b,off,none⟩/\W.cell? ⟨b,off+k,none⟩=some (.int .i64 (bs.getD k 0))):=fun W hW k hk=>by
  have hb:b<w.heap.size:=by
   rcases hbB with h | h
   ·exact h
   ·subst h;simp at hk
  exact⟨ha (by omega),(hW.cell (p:=⟨b,off+k,none⟩) hb).trans (hc k hk)⟩
 have HV:Hid (zgB w v fr):=hv;have HW:Hid (∀out fr' k,weaveL bs fr=out++weaveL (bs.drop k) fr'->out.length<=20):=fun out fr' k h=>by have h1:=congrArg List.length h;rw[zgv,List.length_append]at h1;omega
 obtain⟨i0,hi,hz0,hs0,hy0⟩:=info_parts zdT;have HT:Hid (Tryz.prog.info? 3=some i0/\i0.zero=some (.int .i64 0)/\i0.size=1/\i0.bytes=8):=⟨hi,hz0,hs0,hy0⟩;clear hi hz0 hs0 hy0 ha hbB hc hv;go_enter Tryz.func49,Tryz.ntmps49;go_wp2_with fail
 go_loopw [1,5,10] (fun v1 v5 v10 wr=>∃(k:Nat) (out fr':List Int),k<=bs.length/\v10=.int .i64 k/\zgB w v1 fr'/\weaveL bs fr=out++weaveL (bs.drop k) fr'/\wr.ownsRow w.heap.size 3 1 v5 out.length (out.map (Value.int .i64))/\Below w.heap.size w wr) (fun _ _ v10 _=>bs.length-(intOf v10).toNat)
 case atStart=>exact⟨0,[],fr,Nat.zero_le _,rfl,HV.out,rfl,World.ownsRow_nil _ _ _ _,Below.refl _ _⟩
 case round =>
  obtain⟨WR,hWR⟩:∃W:World,W=wr:=⟨_,rfl⟩;subst hWR;obtain⟨k,out,fr',hk,rfl,hrow,hwv,hown,hbel⟩:=hrel;have HR:Hid (zgB w u1 fr'):=hrow;have HWV:Hid (weaveL bs fr=out++weaveL (bs.drop k) fr'):=hwv;have HOWN:Hid (WR.ownsRow w.heap.size 3 1 u5 out.length (out.map (Value.int .i64))):=hown;have hol:=HW.out _ _ _ hwv;clear hrow hwv hown;by_cases hlt:k<bs.length
  ·have hlt':(k:Int)<(bs.length:Int):=by omega
   obtain⟨hadr,c0⟩:=HU.out WR hbel k hlt;subst hadr;obtain⟨t,ht⟩:∃t,bs.getD k 0=t:=⟨_,rfl⟩;rw[ht]at c0;have HDR:Hid (bs.drop k=t::bs.drop (k+1)):=by show bs.drop k=t::bs.drop (k+1);rw[List.drop_eq_getElem_cons hlt,<-ht];simp[List.getD,List.getElem?_eq_getElem hlt]
   clear ht;go_wp2_with fail
   go_loopw [1,5] (fun v1 v5 wx=>∃(out fr':List Int),zgB w v1 fr'/\weaveL bs fr=out++weaveL (bs.drop k) fr'/\wx.ownsRow w.heap.size 3 1 v5 out.length (out.map (Value.int .i64))/\Below w.heap.size w wx) (fun v1 _ _=>zov v1)
   case atStart=>exact⟨out,fr',HR.out,HWV.out,HOWN.out,hbel⟩
   case round =>
    clear HR HWV HOWN hol hbel c0;obtain⟨out,fr',hrow,hwv,hown,hbel⟩:=hrel;have hol:=HW.out _ _ _ hwv;have HWV:Hid (weaveL bs fr=out++weaveL (bs.drop k) fr'):=hwv;have HOWN:Hid (wr.ownsRow w.heap.size 3 1 u5 out.length (out.map (Value.int .i64))):=hown;have HR:Hid (zgB w u1 fr'):=hrow;have hsz:=hbel.size;obtain⟨n,hn⟩:∃n,out.length=n:=⟨_,rfl⟩;rw[hn]at HOWN hol;have HN:Hid (out.length=n):=hn;clear hwv hown hn;obtain⟨adf,bf,offf,capf,rfl,hcap,haf,-,hbf,hcf⟩:=hrow;cases fr' with
    | nil =>
      have HQ:Hid (weaveL bs fr=(out++[t])++weaveL (bs.drop (k+1)) []):=by show weaveL bs fr=(out++[t])++weaveL (bs.drop (k+1)) [];rw[HWV.out,HDR.out,zj7 (fun f r h=>by cases h)];simp
      clear haf hbf hcf hcap;go_wp2_with (at_builtin;refine wpList_append_own _ rfl (.tmp 32) (.tmp 34) 24 rfl w.heap.size 3 i0 (.int .i64 0) 1 8 Tryz.underlying24 HT.out.1 HT.out.2.1 HT.out.2.2.1 HT.out.2.2.2 rfl (by decide) u5 n (out.map (Value.int .i64)) rfl (HOWN.out.alloc _) ⟨wr.heap.size,0,none⟩ 1 1 [.int .i64 t] rfl rfl (cell_one_new _ _ _) (by simp[Value.oneCell']) (by unfold maxLen;omega) (by omega) (by simp;omega) ?_;intro v2 w2 hown2 hgr2 hnil2);have hB2:=(hbel.alloc hsz _).grown hgr2 (by simp;omega) (fun m hm=>(HOWN.out.lt m hm).1);go_roundw
      case rel=>exact⟨k+1,out++[t],[],by omega,by go_num,HR.out,HQ.out,by simpa[HN.out]using hown2,hB2⟩
      case measure=>simp[intOf];omega
    | cons f r =>
      obtain rfl:=haf (by simp)
      have hblt:bf<w.heap.size:=by
       rcases hbf with h | h
       ·exact h
       ·cases h
      have f0:=(hbel.cell (p:=⟨bf,offf+0,none⟩) hblt).trans (hcf 0 (by simp));simp only[Nat.add_zero,List.getD_cons_zero]at f0;have HC:Hid (∀i,i<r.length->w.cell? ⟨bf,offf+1+i,none⟩=some (.int .i64 (r.getD i 0))):=fun i hi=>by have:=hcf (i+1) (by simpa using hi);rw[show offf+1+i=offf+(i+1)by omega];simpa using this
      obtain⟨m,hm⟩:∃m,(f::r).length=m:=⟨_,rfl⟩;have hm1:1<=m:=by rw[<-hm];simp
      have HM:Hid (r.length+1=m):=by show r.length+1=m;rw[<-hm];rfl
      rw[hm]at hcap ⊢;have hmp:(0:Int)<(m:Int):=by omega
      clear hm haf hbf hcf;by_cases hft:f<t
      ·have HQ:Hid (weaveL bs fr=(out++[f])++weaveL (bs.drop k) r):=by
        show weaveL bs fr=(out++[f])++weaveL (bs.drop k) r;rw[HWV.out,HDR.out,ze4 hft];simp
       have HRR:Hid (zgB w (.slice (if capf=1 then some ⟨bf,offf,none⟩else some ⟨bf,offf+1,none⟩) (m-1) (capf-1)) r):=⟨_,bf,offf+1,capf-1,by rw[show r.length=m-1 by have:=HM.out;omega],by have:=HM.out;omega,fun h=>if_neg (by have:=HM.out;omega),fun h=>(by split at h <;> cases h),.inl hblt,HC.out⟩;go_wp2_with (at_builtin;refine wpList_append_own _ rfl (.tmp 24) (.tmp 28) 24 rfl w.heap.size 3 i0 (.int .i64 0) 1 8 Tryz.underlying24 HT.out.1 HT.out.2.1 HT.out.2.2.1 HT.out.2.2.2 rfl (by decide) u5 n (out.map (Value.int .i64)) rfl (HOWN.out.alloc _) ⟨wr.heap.size,0,none⟩ 1 1 [.int .i64 f] rfl rfl (cell_one_new _ _ _) (by simp[Value.oneCell']) (by unfold maxLen;omega) (by omega) (by simp;omega) ?_;intro v2 w2 hown2 hgr2 hnil2);have hB2:=(hbel.alloc hsz _).grown hgr2 (by simp;omega) (fun m hm=>(HOWN.out.lt m hm).1);go_roundw
       case rel=>exact⟨out++[f],r,HRR.out,HQ.out,by simpa[HN.out]using hown2,hB2⟩
       case measure=>simp[zov];omega
      ·have HQ:Hid (weaveL bs fr=(out++[t])++weaveL (bs.drop (k+1)) (f::r)):=by
        show weaveL bs fr=(out++[t])++weaveL (bs.drop (k+1)) (f::r);rw[HWV.out,HDR.out,zdk hft];simp
       go_wp2_with (at_builtin;refine wpList_append_own _ rfl (.tmp 32) (.tmp 34) 24 rfl w.heap.size 3 i0 (.int .i64 0) 1 8 Tryz.underlying24 HT.out.1 HT.out.2.1 HT.out.2.2.1 HT.out.2.2.2 rfl (by decide) u5 n (out.map (Value.int .i64)) rfl (HOWN.out.alloc _) ⟨wr.heap.size,0,none⟩ 1 1 [.int .i64 t] rfl rfl (cell_one_new _ _ _) (by simp[Value.oneCell']) (by unfold maxLen;omega) (by omega) (by simp;omega) ?_;intro v2 w2 hown2 hgr2 hnil2);have hB2:=(hbel.alloc hsz _).grown hgr2 (by simp;omega) (fun m hm=>(HOWN.out.lt m hm).1);go_roundw
       case rel=>exact⟨k+1,out++[t],f::r,by omega,by go_num,by have h1:=HR.out;rw[show(f::r).length=m by have:=HM.out;simpa using this]at h1;exact h1,HQ.out,by simpa[HN.out]using hown2,hB2⟩
       case measure=>simp[intOf];omega
  ·have hlt':¬(k:Int)<(bs.length:Int):=by omega
   have HQ:Hid (weaveL bs fr=out++fr'):=by show weaveL bs fr=out++fr';rw[HWV.out,List.drop_of_length_le (by omega)];rfl
   have hsz:=hbel.size;have hfl':fr'.length<=20:=by have h1:=congrArg List.length HQ.out;rw[zgv,List.length_append]at h1;omega
   obtain⟨adf,bf,offf,capf,rfl,hcap,haf,hnf,hbf,hcf⟩:=HR.out;obtain⟨n,hn⟩:∃n,out.length=n:=⟨_,rfl⟩;rw[hn]at HOWN hol;have HN:Hid (out.length=n):=hn;clear hn HR;cases fr' with
   | nil =>
     clear haf hbf hcf hcap;have HF:Hid (zak WR u5 (weaveL bs fr)):=by show zak WR u5 (weaveL bs fr);rw[HQ.out,List.append_nil];exact zaF HOWN.out HN.out
     cases adf with
     | none =>obtain rfl:=hnf rfl;clear hnf;go_wp2_with (at_builtin;refine wpList_append_own_none rfl (.tmp 37) (.tmp 38) 24 rfl w.heap.size 3 i0 1 Tryz.underlying24 HT.out.1 u5 n (out.map (Value.int .i64)) rfl HOWN.out rfl ?_);go_ret;exact⟨_,rfl,HF.out,hbel⟩
     | some a =>clear hnf;go_wp2_with (at_builtin;refine wpList_append_own _ rfl (.tmp 37) (.tmp 38) 24 rfl w.heap.size 3 i0 (.int .i64 0) 1 8 Tryz.underlying24 HT.out.1 HT.out.2.1 HT.out.2.2.1 HT.out.2.2.2 rfl (by decide) u5 n (out.map (Value.int .i64)) rfl HOWN.out a 0 capf [] rfl rfl (fun j u hj=>by simp at hj) (fun u hu=>by cases hu) (by unfold maxLen;omega) (by omega) (by omega) ?_;intro v2 w2 hown2 hgr2 hnil2);have hB2:=hbel.grown hgr2 hsz (fun m hm=>(HOWN.out.lt m hm).1);go_ret;refine⟨_,rfl,?_,hB2⟩;rw[HQ.out,List.append_nil];exact zaF (n:=n) (by simpa using hown2) HN.out
   | cons f r =>
     obtain rfl:=haf (by simp)
     have hblt:bf<w.heap.size:=by
      rcases hbf with h | h
      ·exact h
      ·cases h
     have HS:Hid (∀j u,((f::r).map (Value.int .i64))[j]? = some u->WR.cell? ⟨bf,offf+j,none⟩=some u):=fun j u hj=>by rw[List.getElem?_map]at hj;obtain⟨x,hx,rfl⟩:=Option.map_eq_some_iff.1 hj;have hj':=(List.getElem?_eq_some_iff.1 hx).1;rw[hbel.cell (p:=⟨bf,offf+j,none⟩) hblt,hcf j hj'];simp[List.getD,hx]
     obtain⟨m,hm⟩:∃m,(f::r).length=m:=⟨_,rfl⟩;rw[hm]at hcap hfl' ⊢;have HM:Hid ((f::r).length=m):=hm;clear haf hbf hcf hm hnf;go_wp2_with (at_builtin;refine wpList_append_own _ rfl (.tmp 37) (.tmp 38) 24 rfl w.heap.size 3 i0 (.int .i64 0) 1 8 Tryz.underlying24 HT.out.1 HT.out.2.1 HT.out.2.2.1 HT.out.2.2.2 rfl (by decide) u5 n (out.map (Value.int .i64)) rfl HOWN.out ⟨bf,offf,none⟩ m capf ((f::r).map (Value.int .i64)) rfl (by rw[List.length_map,HM.out,Nat.mul_one]) (fun j u hj=>by rw[Addr.add_lit];exact HS.out j u hj) (fun u hu=>by obtain⟨k,_,rfl⟩:=List.mem_map.1 hu;rfl) (by unfold maxLen;omega) (by omega) (by omega) ?_;intro v2 w2 hown2 hgr2 hnil2);have hB2:=hbel.grown hgr2 hsz (fun m hm=>(HOWN.out.lt m hm).1);go_ret;refine⟨_,rfl,?_,hB2⟩;rw[HQ.out];exact zaF (n:=n+m) (by rw[List.map_append];exact hown2) (by rw[List.length_append,HN.out,HM.out])
end Go.Proofs.YthlhgiihngcobaaGreatDoor
