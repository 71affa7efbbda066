/-
  PROVED HERE: serial.weave lays rising numbers between those of an order, each as soon as it is less than the next one of; slices.DeleteFunc, with the closure of serial.Order, at a list of numbers that the call itself has made; odds.atOdds and odds.pairs answer as the plain functions of the text OddPlain say, for any list of at most 40; slices.IndexFunc and slices.ContainsFunc over a slice of edges, for the two closures that the program hands.
  Conditions: none but those that each theorem's own premises say.
-/
import Derived.Test.YthlhgiihngcobaaGreatDoorMgau
import Derived.Test.YthlhgiihngcobaaGreatDoorMgah
import Derived.BigQuiet
import Derived.Test.YthlhgiihngcobaaGreatDoorMgag
import Derived.Test.YthlhgiihngcobaaGreatDoorMgaj
set_option maxHeartbeats 32000000
set_option maxRecDepth 100000
namespace Go.Proofs.YthlhgiihngcobaaGreatDoor
open Go.RowKit
def zl0(w:World)(v:Value)(l:List Int):Prop :=∃(ad:Option Addr) (b off cap:Nat),v=.slice ad l.length cap/\l.length<=cap/\(0<l.length->ad=some ⟨b,off,none⟩)/\(ad=none->cap=0)/\(b<w.heap.size\/l=[])/\∀i,i<l.length->w.cell? ⟨b,off+i,none⟩=some (.int .i64 (l.getD i 0))
theorem zuY{b:Int}{bs fr:List Int}(h:∀f r,fr=f::r->¬f<b):weaveL (b::bs) fr=b::weaveL bs fr:=by
 cases fr with
 | nil=>simp[weaveL]
 | cons f r=>exact zgn (h f r rfl)
def zCf:Value->Nat
 | .slice _ n _=>n
 | _=>0
theorem zr8(bs fr:List Int)(u v:Value)(w:World)(hu:zaf w u bs)(hv:zl0 w v fr)(hbl:bs.length<=10)(hfl:fr.length<=10):Calls Tryz.prog 49 #[u,v] w fun e w'=>∃v',e=.returned v'/\zaf w' v' (weaveL bs fr)/\Below w.heap.size w w':=by
 obtain⟨ad,b,off,cap,rfl,ha,-,hbB,hc⟩:=hu
 have HU:Hid (∀W,Below w.heap.size w W->∀k,k<bs.length->ad=some ⟨b,off,none⟩/\W.cell? ⟨b,off+k,none⟩=some (.int .i64 (bs.getD k 0))):=fun W hW k hk=>by
  have hb:b<w.heap.size:=by
   rcases hbB with h | h
   ·exact h
   ·subst h;simp at hk
  exact⟨ha (by omega),(hW.cell (p:=⟨b,off+k,none⟩) hb).trans (hc k hk)⟩
 have HV:Hid (zl0 w v fr):=hv;have HW:Hid (∀out fr' k,weaveL bs fr=out++weaveL (bs.drop k) fr'->out.length<=20):=fun out fr' k h=>by have h1:=congrArg List.length h;rw[zms,List.length_append]at h1;omega
 obtain⟨i0,hi,hz0,hs0,hy0⟩:=info_parts zbK;have HT:Hid (Tryz.prog.info? 3=some i0/\i0.zero=some (.int .i64 0)/\i0.size=1/\i0.bytes=8):=⟨hi,hz0,hs0,hy0⟩;clear hi hz0 hs0 hy0 ha hbB hc hv;go_enter Tryz.func49,Tryz.ntmps49;go_wp2_with fail
 go_loopw [1,5,10] (fun v1 v5 v10 wr=>∃(k:Nat) (out fr':List Int),k<=bs.length/\v10=.int .i64 k/\zl0 w v1 fr'/\weaveL bs fr=out++weaveL (bs.drop k) fr'/\wr.ownsRow w.heap.size 3 1 v5 out.length (out.map (Value.int .i64))/\Below w.heap.size w wr) (fun _ _ v10 _=>bs.length-(intOf v10).toNat)
 case atStart=>exact⟨0,[],fr,Nat.zero_le _,rfl,HV.out,rfl,World.ownsRow_nil _ _ _ _,Below.refl _ _⟩
 case round =>
  obtain⟨WR,hWR⟩:∃W:World,W=wr:=⟨_,rfl⟩;subst hWR;obtain⟨k,out,fr',hk,rfl,hrow,hwv,hown,hbel⟩:=hrel;have HR:Hid (zl0 w u1 fr'):=hrow;have HWV:Hid (weaveL bs fr=out++weaveL (bs.drop k) fr'):=hwv;have HOWN:Hid (WR.ownsRow w.heap.size 3 1 u5 out.length (out.map (Value.int .i64))):=hown;have hol:=HW.out _ _ _ hwv;clear hrow hwv hown;by_cases hlt:k<bs.length
  ·have hlt':(k:Int)<(bs.length:Int):=by omega
   obtain⟨hadr,c0⟩:=HU.out WR hbel k hlt;subst hadr;obtain⟨t,ht⟩:∃t,bs.getD k 0=t:=⟨_,rfl⟩;rw[ht]at c0;have HDR:Hid (bs.drop k=t::bs.drop (k+1)):=by show bs.drop k=t::bs.drop (k+1);rw[List.drop_eq_getElem_cons hlt,<-ht];simp[List.getD,List.getElem?_eq_getElem hlt]
   clear ht;go_wp2_with fail
   go_loopw [1,5] (fun v1 v5 wx=>∃(out fr':List Int),zl0 w v1 fr'/\weaveL bs fr=out++weaveL (bs.drop k) fr'/\wx.ownsRow w.heap.size 3 1 v5 out.length (out.map (Value.int .i64))/\Below w.heap.size w wx) (fun v1 _ _=>zCf v1)
   case atStart=>exact⟨out,fr',HR.out,HWV.out,HOWN.out,hbel⟩
   case round =>
    clear HR HWV HOWN hol hbel c0;obtain⟨out,fr',hrow,hwv,hown,hbel⟩:=hrel;have hol:=HW.out _ _ _ hwv;have HWV:Hid (weaveL bs fr=out++weaveL (bs.drop k) fr'):=hwv;have HOWN:Hid (wr.ownsRow w.heap.size 3 1 u5 out.length (out.map (Value.int .i64))):=hown;have HR:Hid (zl0 w u1 fr'):=hrow;have hsz:=hbel.size;obtain⟨n,hn⟩:∃n,out.length=n:=⟨_,rfl⟩;rw[hn]at HOWN hol;have HN:Hid (out.length=n):=hn;clear hwv hown hn;obtain⟨adf,bf,offf,capf,rfl,hcap,haf,-,hbf,hcf⟩:=hrow;cases fr' with
    | nil =>
      have HQ:Hid (weaveL bs fr=(out++[t])++weaveL (bs.drop (k+1)) []):=by show weaveL bs fr=(out++[t])++weaveL (bs.drop (k+1)) [];rw[HWV.out,HDR.out,zuY (fun f r h=>by cases h)];simp
      clear haf hbf hcf hcap;go_wp2_with (at_builtin;refine wpList_append_own _ rfl (.tmp 32) (.tmp 34) 24 rfl w.heap.size 3 i0 (.int .i64 0) 1 8 Tryz.underlying24 HT.out.1 HT.out.2.1 HT.out.2.2.1 HT.out.2.2.2 rfl (by decide) u5 n (out.map (Value.int .i64)) rfl (HOWN.out.alloc _) ⟨wr.heap.size,0,none⟩ 1 1 [.int .i64 t] rfl rfl (cell_one_new _ _ _) (by simp[Value.oneCell']) (by unfold maxLen;omega) (by omega) (by simp;omega) ?_;intro v2 w2 hown2 hgr2 hnil2);have hB2:=(hbel.alloc hsz _).grown hgr2 (by simp;omega) (fun m hm=>(HOWN.out.lt m hm).1);go_roundw
      case rel=>exact⟨k+1,out++[t],[],by omega,by go_num,HR.out,HQ.out,by simpa[HN.out]using hown2,hB2⟩
      case measure=>simp[intOf];omega
    | cons f r =>
      obtain rfl:=haf (by simp)
      have hblt:bf<w.heap.size:=by
       rcases hbf with h | h
       ·exact h
       ·cases h
      have f0:=(hbel.cell (p:=⟨bf,offf+0,none⟩) hblt).trans (hcf 0 (by simp));simp only[Nat.add_zero,List.getD_cons_zero]at f0;have HC:Hid (∀i,i<r.length->w.cell? ⟨bf,offf+1+i,none⟩=some (.int .i64 (r.getD i 0))):=fun i hi=>by have:=hcf (i+1) (by simpa using hi);rw[show offf+1+i=offf+(i+1)by omega];simpa using this
      obtain⟨m,hm⟩:∃m,(f::r).length=m:=⟨_,rfl⟩;have hm1:1<=m:=by rw[<-hm];simp
      have HM:Hid (r.length+1=m):=by show r.length+1=m;rw[<-hm];rfl
      rw[hm]at hcap ⊢;have hmp:(0:Int)<(m:Int):=by omega
      clear hm haf hbf hcf;by_cases hft:f<t
      ·have HQ:Hid (weaveL bs fr=(out++[f])++weaveL (bs.drop k) r):=by
        show weaveL bs fr=(out++[f])++weaveL (bs.drop k) r;rw[HWV.out,HDR.out,zi1 hft];simp
       have HRR:Hid (zl0 w (.slice (if capf=1 then some ⟨bf,offf,none⟩else some ⟨bf,offf+1,none⟩) (m-1) (capf-1)) r):=⟨_,bf,offf+1,capf-1,by rw[show r.length=m-1 by have:=HM.out;omega],by have:=HM.out;omega,fun h=>if_neg (by have:=HM.out;omega),fun h=>(by split at h <;> cases h),.inl hblt,HC.out⟩;go_wp2_with (at_builtin;refine wpList_append_own _ rfl (.tmp 24) (.tmp 28) 24 rfl w.heap.size 3 i0 (.int .i64 0) 1 8 Tryz.underlying24 HT.out.1 HT.out.2.1 HT.out.2.2.1 HT.out.2.2.2 rfl (by decide) u5 n (out.map (Value.int .i64)) rfl (HOWN.out.alloc _) ⟨wr.heap.size,0,none⟩ 1 1 [.int .i64 f] rfl rfl (cell_one_new _ _ _) (by simp[Value.oneCell']) (by unfold maxLen;omega) (by omega) (by simp;omega) ?_;intro v2 w2 hown2 hgr2 hnil2);have hB2:=(hbel.alloc hsz _).grown hgr2 (by simp;omega) (fun m hm=>(HOWN.out.lt m hm).1);go_roundw
       case rel=>exact⟨out++[f],r,HRR.out,HQ.out,by simpa[HN.out]using hown2,hB2⟩
       case measure=>simp[zCf];omega
      ·have HQ:Hid (weaveL bs fr=(out++[t])++weaveL (bs.drop (k+1)) (f::r)):=by
        show weaveL bs fr=(out++[t])++weaveL (bs.drop (k+1)) (f::r);rw[HWV.out,HDR.out,zgn hft];simp
       go_wp2_with (at_builtin;refine wpList_append_own _ rfl (.tmp 32) (.tmp 34) 24 rfl w.heap.size 3 i0 (.int .i64 0) 1 8 Tryz.underlying24 HT.out.1 HT.out.2.1 HT.out.2.2.1 HT.out.2.2.2 rfl (by decide) u5 n (out.map (Value.int .i64)) rfl (HOWN.out.alloc _) ⟨wr.heap.size,0,none⟩ 1 1 [.int .i64 t] rfl rfl (cell_one_new _ _ _) (by simp[Value.oneCell']) (by unfold maxLen;omega) (by omega) (by simp;omega) ?_;intro v2 w2 hown2 hgr2 hnil2);have hB2:=(hbel.alloc hsz _).grown hgr2 (by simp;omega) (fun m hm=>(HOWN.out.lt m hm).1);go_roundw
       case rel=>exact⟨k+1,out++[t],f::r,by omega,by go_num,by have h1:=HR.out;rw[show(f::r).length=m by have:=HM.out;simpa using this]at h1;exact h1,HQ.out,by simpa[HN.out]using hown2,hB2⟩
       case measure=>simp[intOf];omega
  ·have hlt':¬(k:Int)<(bs.length:Int):=by omega
   have HQ:Hid (weaveL bs fr=out++fr'):=by show weaveL bs fr=out++fr';rw[HWV.out,List.drop_of_length_le (by omega)];rfl
   have hsz:=hbel.size;have hfl':fr'.length<=20:=by have h1:=congrArg List.length HQ.out;rw[zms,List.length_append]at h1;omega
   obtain⟨adf,bf,offf,capf,rfl,hcap,haf,hnf,hbf,hcf⟩:=HR.out;obtain⟨n,hn⟩:∃n,out.length=n:=⟨_,rfl⟩;rw[hn]at HOWN hol;have HN:Hid (out.length=n):=hn;clear hn HR;cases fr' with
   | nil =>
     clear haf hbf hcf hcap;have HF:Hid (zaf WR u5 (weaveL bs fr)):=by show zaf WR u5 (weaveL bs fr);rw[HQ.out,List.append_nil];exact zap HOWN.out HN.out
     cases adf with
     | none =>obtain rfl:=hnf rfl;clear hnf;go_wp2_with (at_builtin;refine wpList_append_own_none rfl (.tmp 37) (.tmp 38) 24 rfl w.heap.size 3 i0 1 Tryz.underlying24 HT.out.1 u5 n (out.map (Value.int .i64)) rfl HOWN.out rfl ?_);go_ret;exact⟨_,rfl,HF.out,hbel⟩
     | some a =>clear hnf;go_wp2_with (at_builtin;refine wpList_append_own _ rfl (.tmp 37) (.tmp 38) 24 rfl w.heap.size 3 i0 (.int .i64 0) 1 8 Tryz.underlying24 HT.out.1 HT.out.2.1 HT.out.2.2.1 HT.out.2.2.2 rfl (by decide) u5 n (out.map (Value.int .i64)) rfl HOWN.out a 0 capf [] rfl rfl (fun j u hj=>by simp at hj) (fun u hu=>by cases hu) (by unfold maxLen;omega) (by omega) (by omega) ?_;intro v2 w2 hown2 hgr2 hnil2);have hB2:=hbel.grown hgr2 hsz (fun m hm=>(HOWN.out.lt m hm).1);go_ret;refine⟨_,rfl,?_,hB2⟩;rw[HQ.out,List.append_nil];exact zap (n:=n) (by simpa using hown2) HN.out
   | cons f r =>
     obtain rfl:=haf (by simp)
     have hblt:bf<w.heap.size:=by
      rcases hbf with h | h
      ·exact h
      ·cases h
     have HS:Hid (∀j u,((f::r).map (Value.int .i64))[j]? = some u->WR.cell? ⟨bf,offf+j,none⟩=some u):=fun j u hj=>by rw[List.getElem?_map]at hj;obtain⟨x,hx,rfl⟩:=Option.map_eq_some_iff.1 hj;have hj':=(List.getElem?_eq_some_iff.1 hx).1;rw[hbel.cell (p:=⟨bf,offf+j,none⟩) hblt,hcf j hj'];simp[List.getD,hx]
     obtain⟨m,hm⟩:∃m,(f::r).length=m:=⟨_,rfl⟩;rw[hm]at hcap hfl' ⊢;have HM:Hid ((f::r).length=m):=hm;clear haf hbf hcf hm hnf;go_wp2_with (at_builtin;refine wpList_append_own _ rfl (.tmp 37) (.tmp 38) 24 rfl w.heap.size 3 i0 (.int .i64 0) 1 8 Tryz.underlying24 HT.out.1 HT.out.2.1 HT.out.2.2.1 HT.out.2.2.2 rfl (by decide) u5 n (out.map (Value.int .i64)) rfl HOWN.out ⟨bf,offf,none⟩ m capf ((f::r).map (Value.int .i64)) rfl (by rw[List.length_map,HM.out,Nat.mul_one]) (fun j u hj=>by rw[Addr.add_lit];exact HS.out j u hj) (fun u hu=>by obtain⟨k,_,rfl⟩:=List.mem_map.1 hu;rfl) (by unfold maxLen;omega) (by omega) (by omega) ?_;intro v2 w2 hown2 hgr2 hnil2);have hB2:=hbel.grown hgr2 hsz (fun m hm=>(HOWN.out.lt m hm).1);go_ret;refine⟨_,rfl,?_,hB2⟩;rw[HQ.out];exact zap (n:=n+m) (by rw[List.map_append];exact hown2) (by rw[List.length_append,HN.out,HM.out])
end Go.Proofs.YthlhgiihngcobaaGreatDoor
namespace Go.Proofs.YthlhgiihngcobaaGreatDoor
open Go.RowKit Go.Sort
theorem zia(bs:List Int)(bv:Value)(c:Nat)(x:Int)(W:World)(hc:W.cell? ⟨c,0,none⟩=some bv)(hI:zaf W bv bs)(hl:bs.length<=10):FnGives Tryz.prog 47 #[.pointer (some ⟨c,0,none⟩)] #[.int .i64 x] (.bool (inB bs x)) W:=by show Calls Tryz.prog 47 #[.int .i64 x,.pointer (some ⟨c,0,none⟩)] W _;go_enter Tryz.func47,Tryz.ntmps47;go_wp2_with (go_at_call 48;refine(contains_ints bs bv x _ hI (by omega)).mono ?_;rintro e w' ⟨rfl,rfl⟩);go_ret;exact⟨rfl,0,rfl⟩
theorem zeb{w W:World}{row:Option Nat}(h:Below w.heap.size w W):w.grownBy W row:=⟨h.os,h.tape,h.output,h.size,fun k hk _=>h.block k hk⟩
theorem zp0(ds bs:List Int)(v bv:Value)(c base n:Nat)(w:World)(hn:ds.length=n)(hl:ds.length<=10)(hb:bs.length<=10)(h:w.ownsRow base 3 1 v n (ds.map (Value.int .i64)))
  (hB:∀W,w.grownBy W v.ownBlock->W.cell? ⟨c,0,none⟩=some bv/\zaf W bv bs) :
  Calls Tryz.prog 50 #[v,.func (.func 47) #[] #[.pointer (some ⟨c,0,none⟩)]] w fun e w'=>∃v',e=.returned v'/\zl0 w' v' (ds.filter fun x=>!inB bs x)/\w.grownBy w' v.ownBlock:=by
 subst hn;obtain⟨h0,⟨hv,hz⟩ | ⟨g,cap,cur,hv,hbase,hb1,h1,h2,h3,h4⟩⟩:=h
 ·subst hv;have e0:ds=[]:=List.length_eq_zero_iff.1 hz;subst e0;clear hB h0 hz;go_enter Tryz.func50,Tryz.ntmps50;go_wp2_with (go_at_call 117;refine(AnyE.slices_IndexFunc_empty Tryz.laysSlH6_f117 none 0 _ _).mono ?_;rintro e w' ⟨rfl,rfl⟩);go_ret;exact⟨_,rfl,⟨none,0,0,0,rfl,Nat.le_refl _,fun h=>absurd h (by simp),fun _=>rfl,.inr rfl,fun i hi=>by simp at hi⟩,⟨rfl,rfl,rfl,Nat.le_refl _,fun _ _ _=>rfl⟩⟩
 ·subst hv;have eg:∀args w,(callFunc 47 args).run Tryz.prog w=.ok (.enter 47 args) w:=enters_of Tryz.func47 (by kernel_rfl) rfl
  have hcon:=AnyE.slices_DeleteFunc Tryz.laysSlH10_f50 (Value.int .i64) (fun _=>rfl) (fun x=>inB bs x) 47 #[.pointer (some ⟨c,0,none⟩)] eg 0 Tryz.zeroValue3 g 0 cap ds.toArray w
   (fun W x hbw=>zia bs bv c x W (hB W (zeb hbw)).1 (hB W (zeb hbw)).2 hb)
   (fun q os dk x _=>zia bs bv c x _ (hB _ (grownBy_sortedI dk)).1 (hB _ (grownBy_sortedI dk)).2 hb)
   (holds_of_blockI hb1 (by simpa using h4)) (by simp;omega) (by simpa using h1)
  have e1:ds.toArray.toList=ds:=rfl;have e2:ds.toArray.size=ds.length:=rfl;rw[e1,e2]at hcon
  change Calls Tryz.prog 50 _ _ _ at hcon
  refine hcon.mono ?_;rintro e w' ⟨he,q,hw⟩;obtain⟨fs,hfs⟩:∃fs,(ds.filter fun x=>!inB bs x)=fs:=⟨_,rfl⟩;have hfl:fs.length<=ds.length:=by rw[<-hfs];exact List.length_filter_le ..
  rw[hfs]at he hw ⊢;have hrow:=ownsRow_sortedI (w:=w) (n:=q) (os:=#[]) (e:=3) (ts:=fs++List.replicate (ds.length-fs.length) 0) (by simp;omega) hbase hb1 h1 h2 h3;have hgr:=grownBy_sortedI (w:=w) (g:=g) (n:=q) (os:=#[]) (fs++List.replicate (ds.length-fs.length) 0).toArray;rw[grow_empty,<-hw]at hrow hgr;refine⟨_,he,⟨some ⟨g,0,none⟩,g,0,cap,rfl,by omega,fun _=>rfl,fun h=>(by cases h),.inl (by have:=(hrow.lt g rfl).2;exact this),fun i hi=>?_⟩,hgr⟩;have:=hrow.cells (g:=g) rfl i (.int .i64 (fs.getD i 0)) (by rw[List.getElem?_map,List.getElem?_append_left hi];simp[List.getD,List.getElem?_eq_getElem hi]);rw[Addr.add_lit]at this;exact this
end Go.Proofs.YthlhgiihngcobaaGreatDoor
namespace Go.Proofs.YthlhgiihngcobaaGreatDoor
open Go.RowKit
theorem odd_any(t a i t2 a2 i2:Int)(w:World):Calls Tryz.prog 178 #[.agg #[.int .i64 t,.int .i64 a,.int .i64 i],.agg #[.int .i64 t2,.int .i64 a2,.int .i64 i2]] w fun e w'=>e=.returned (.bool (zgf (t,a,i) (t2,a2,i2)))/\w'=(w.alloc (.cells #[.int .i64 t,.int .i64 a,.int .i64 i] 103)).alloc (.cells #[.int .i64 t2,.int .i64 a2,.int .i64 i2] 103):=by
 go_enter Tryz.func178,Tryz.ntmps178;go_wp2;all_goals go_ret
 all_goals exact⟨ret_bool (by simp_all [zgf]),by first | rfl | simp_all⟩
theorem zkR(l:List Op3)(v:Value)(w:World)(hI:zai w v l)(hl:l.length<=40):Calls Tryz.prog 110 #[v] w fun e w'=>∃v',e=.returned v'/\w'.ownsRow w.heap.size 131 2 v' (pairsL l).length (flatE (pairsL l))/\Below w.heap.size w w':=by
 obtain⟨ad,b,off,cap,rfl,ha,_,hbB,hops⟩:=hI;obtain⟨i0,hi,hz0,hs0,hy0⟩:=info_parts zg9;have HI:Hid (Tryz.prog.info? 131=some i0/\i0.zero=some (.agg #[.int .i64 0,.int .i64 0])/\i0.size=2/\i0.bytes=16):=⟨hi,hz0,hs0,hy0⟩;clear hi hz0 hs0 hy0;go_enter Tryz.func110,Tryz.ntmps110;go_wp2
 go_loopw [3,8] (fun v3 v8 wr=>∃i:Nat,i<=l.length/\v8=.int .i64 i/\wr.ownsRow w.heap.size 131 2 v3 (zbM l i).length (flatE (zbM l i))/\Below w.heap.size w wr) (fun _ v8 _=>l.length-(intOf v8).toNat)
 case atStart=>exact⟨0,Nat.zero_le _,rfl,World.ownsRow_nil _ _ _ _,Below.refl _ _⟩
 case round =>
  obtain⟨i,hi,rfl,hown,hbel⟩:=hrel;have HOWN:Hid (wr.ownsRow w.heap.size 131 2 u3 (zbM l i).length (flatE (zbM l i))):=hown;clear hown;by_cases hlt:i<l.length
  ·obtain rfl:=ha (by omega)
   have hb1:b<w.heap.size:=by
    rcases hbB with h | h
    ·exact h
    ·subst h;simp at hlt
   have HO:Hid (zd4 w b off l):=hops;clear hops ha hbB;go_wp2
   go_loopw [3,5] (fun v3 v5 wr=>∃j:Nat,i<j/\j<=l.length/\v5=.int .i64 j/\wr.ownsRow w.heap.size 131 2 v3 (zc7 l i j).length (flatE (zc7 l i j))/\Below w.heap.size w wr) (fun _ v5 _=>l.length-(intOf v5).toNat)
   case atStart=>exact⟨i+1,by omega,by omega,by go_num,by rw[zol];exact HOWN.out,hbel⟩
   case round =>
    clear hbel HOWN;obtain⟨j,hij,hj,rfl,hown,hbel⟩:=hrel;have hsz:=hbel.size;by_cases hjl:j<l.length
    ·obtain⟨c0,c1,c2⟩:=(HO.out.below hbel (.inl hb1)) i hlt;obtain⟨d0,d1,d2⟩:=(HO.out.below hbel (.inl hb1)) j hjl;obtain⟨⟨t,a,x⟩,ho⟩:∃o:Op3,l.getD i (0,0,0)=o:=⟨_,rfl⟩;obtain⟨⟨t2,a2,x2⟩,ho2⟩:∃o:Op3,l.getD j (0,0,0)=o:=⟨_,rfl⟩;rw[ho]at c0 c1 c2;rw[ho2]at d0 d1 d2;simp only at c0 c1 c2 d0 d1 d2;have HP:Hid (opAt l i=(t,a,x)/\opAt l j=(t2,a2,x2)):=⟨ho,ho2⟩;clear ho ho2;have hkl:=zss l i j hl hi hj;obtain⟨n,hn⟩:∃n,(zc7 l i j).length=n:=⟨_,rfl⟩;have HN:Hid ((zc7 l i j).length=n):=hn;rw[hn]at hown hkl;have HOWN:Hid (wr.ownsRow w.heap.size 131 2 u3 n (flatE (zc7 l i j))):=hown;clear hn hown;cases hq:zgf (t,a,x) (t2,a2,x2)with
     | false =>
       have HQ:Hid (zgf (opAt l i) (opAt l j)=false):=by show zgf (opAt l i) (opAt l j)=false;rw[HP.out.1,HP.out.2];exact hq
       go_wp2_with fail
       go_region_with (go_at_call 178;refine(odd_any _ _ _ _ _ _ _).mono ?_;rintro e w' ⟨rfl,rfl⟩)
       all_goals
        go_wp2;go_roundw
        case rel=>exact⟨j+1,by omega,by omega,by go_num,by rw[zrG HQ.out,HN.out];exact((HOWN.out.alloc _).alloc _).drew,((hbel.alloc (by omega) _).alloc (by simp;omega) _).drew⟩
        case measure=>simp[intOf];omega
     | true =>
       have HQ:Hid (zgf (opAt l i) (opAt l j)=true):=by show zgf (opAt l i) (opAt l j)=true;rw[HP.out.1,HP.out.2];exact hq
       go_wp2_with fail
       go_region_with (go_at_call 178;refine(odd_any _ _ _ _ _ _ _).mono ?_;rintro e w' ⟨rfl,rfl⟩)
       all_goals
        have HW:Hid (∃W:World,W=((wr.alloc (.cells #[.int .i64 t,.int .i64 a,.int .i64 x] 103)).alloc (.cells #[.int .i64 t2,.int .i64 a2,.int .i64 x2] 103)).drew):=⟨_,rfl⟩;obtain⟨W,hW⟩:=HW.out;have hownW:W.ownsRow w.heap.size 131 2 u3 n (flatE (zc7 l i j)):=by rw[hW];exact((HOWN.out.alloc _).alloc _).drew
        have hbW:Below w.heap.size w W:=by rw[hW];exact((hbel.alloc hsz _).alloc (by simp;omega) _).drew
        rw[<-hW];clear HW hW;have hszW:=hbW.size;go_wp2_with (at_builtin;refine wpList_append_own _ rfl (.tmp 28) (.tmp 32) 89 rfl w.heap.size 131 i0 (.agg #[.int .i64 0,.int .i64 0]) 2 16 Tryz.underlying89 HI.out.1 HI.out.2.1 HI.out.2.2.1 HI.out.2.2.2 rfl (by decide) u3 n (flatE (zc7 l i j)) rfl (hownW.alloc _) ⟨W.heap.size,0,none⟩ 1 1 (flatE [((i:Int),(j:Int))]) rfl rfl (zhe W i j) (zes _) (by unfold maxLen;omega) (by omega) (by simp;omega) ?_;intro v1 w1 hown1 hgr1 hnil1);have hB1:=(hbW.alloc hszW _).grown hgr1 (by simp;omega) (fun m hm=>(hownW.lt m hm).1);go_roundw
        case rel=>exact⟨j+1,by omega,by omega,by go_num,by rw[zuw hij HQ.out,List.length_append,HN.out,zcf];exact hown1,hB1⟩
        case measure=>simp[intOf];omega
    ·have HJ:Hid (j=l.length):=by show j=l.length;omega
     have HOWN:Hid (wr.ownsRow w.heap.size 131 2 u3 (zc7 l i j).length (flatE (zc7 l i j))):=hown;clear hown;go_wp2;go_roundw
     case rel=>exact⟨i+1,by omega,by go_num,by rw[<-zqc l i j HJ.out];exact HOWN.out,hbel⟩
     case measure=>simp[intOf];omega
  ·go_wp2;go_ret;have:=HOWN.out;exact⟨_,rfl,by rw[show pairsL l=zbM l i by unfold pairsL;rw[show i=l.length by omega]];exact this,hbel⟩
theorem zma(l:List Op3)(v:Value)(w:World)(hI:zai w v l)(hl:l.length<=40):Calls Tryz.prog 110 #[v] w fun e w'=>∃v',e=.returned v'/\zaj w' v' (pairsL l)/\Below w.heap.size w w' :=(zkR l v w hI hl).mono fun _ _ ⟨v',he,ho,hb⟩=>⟨v',he,zbL ho rfl,hb⟩
end Go.Proofs.YthlhgiihngcobaaGreatDoor
namespace Go.Proofs.YthlhgiihngcobaaGreatDoor
open Go.RowKit
theorem zxB{q:zab->Bool}{l:List zab}{k:Nat}{e:zab}(h:l.take (k+1)=l.take k++[e])(h1:(l.take k).any q=false)(h2:q e=false):(l.take (k+1)).any q=false:=by rw[h,List.any_append,h1];simp[h2]
theorem zy2{q:zab->Bool}{l:List zab}{e:zab}(h:e∈l)(h2:q e=true):l.any q=true:=List.any_eq_true.2 ⟨e,h,h2⟩
theorem znF(l:List zab)(v:Value)(q:zab->Bool)(p1 p2 p3:Value)(w:World)(hI:zaj w v l)(hlen:l.length<=140737488351)
  (hp:∀W:World,Below w.heap.size w W->∀e∈l,Calls Tryz.prog 111 #[.agg #[.int .i64 e.1,.int .i64 e.2],p1,p2,p3] W fun r w'=>r=.returned (.bool (q e))/\Below W.heap.size W w') :
  Calls Tryz.prog 132 #[v,.func (.func 111) #[] #[p1,p2,p3]] w fun r w'=>∃n:Int,r=.returned (.int .i64 n)/\(decide (0<=n)=l.any q)/\Below w.heap.size w w':=by
 obtain⟨ad,b,off,cap,rfl,ha,_,hbB,hops⟩:=hI;have HO:Hid (∀W,Below w.heap.size w W->∀k,k<l.length->ad=some ⟨b,off,none⟩/\W.cell? ⟨b,off+k*2,none⟩=some (.int .i64 (l.getD k (0,0)).1)/\W.cell? ⟨b,off+k*2+1,none⟩=some (.int .i64 (l.getD k (0,0)).2)):=fun W hW k hk=>⟨ha (by omega),(hops.below hW hbB) k hk⟩;have HP:Hid (∀W:World,Below w.heap.size w W->∀e∈l,Calls Tryz.prog 111 #[.agg #[.int .i64 e.1,.int .i64 e.2],p1,p2,p3] W fun r w'=>r=.returned (.bool (q e))/\Below W.heap.size W w'):=hp;clear ha hbB hops hp;go_enter Tryz.func132,Tryz.ntmps132;go_wp2
 go_loopw [8] (fun v8 wr=>∃k:Nat,k<=l.length/\v8=.int .i64 k/\(l.take k).any q=false/\Below w.heap.size w wr) (fun v8 _=>l.length-(intOf v8).toNat)
 case atStart=>exact⟨0,Nat.zero_le _,rfl,by simp,Below.refl _ _⟩
 case round =>
  obtain⟨k,hk,rfl,hno,hbel⟩:=hrel;have HNO:Hid ((l.take k).any q=false):=hno;clear hno;have hsz:=hbel.size;by_cases hlt:k<l.length
  ·obtain⟨rfl,c0,c1⟩:=HO.out wr hbel k hlt;obtain⟨⟨t,a⟩,ho⟩:∃o:zab,l.getD k (0,0)=o:=⟨_,rfl⟩;rw[ho]at c0 c1;have hmem:(t,a)∈l:=by rw[<-ho];simp[List.getD,List.getElem?_eq_getElem hlt]
   have HT:Hid (l.take (k+1)=l.take k++[(t,a)]):=by show l.take (k+1)=l.take k++[(t,a)];rw[List.take_succ_eq_append_getElem hlt,<-ho];simp[List.getD,List.getElem?_eq_getElem hlt]
   have HM:Hid ((t,a)∈l):=hmem;clear ho HO hmem;simp only at c0 c1;cases hq:q (t,a)with
   | false =>
     have HQ:Hid (q (t,a)=false):=hq;have HC:Hid (Calls Tryz.prog 111 #[.agg #[.int .i64 t,.int .i64 a],p1,p2,p3] wr fun r w'=>r=.returned (.bool false)/\Below wr.heap.size wr w'):=hq ▸HP.out wr hbel _ HM.out;clear hq;go_wp2_with (go_at_call 111;refine HC.out.mono ?_;rintro e w1 ⟨rfl,hb1⟩);go_roundw
     case rel=>exact⟨k+1,by omega,by go_num,zxB HT.out HNO.out HQ.out,hbel.trans (hb1.mono hsz)⟩
     case measure=>simp[intOf];omega
   | true =>have HQ:Hid (q (t,a)=true):=hq;have HC:Hid (Calls Tryz.prog 111 #[.agg #[.int .i64 t,.int .i64 a],p1,p2,p3] wr fun r w'=>r=.returned (.bool true)/\Below wr.heap.size wr w'):=hq ▸HP.out wr hbel _ HM.out;clear hq;go_wp2_with (go_at_call 111;refine HC.out.mono ?_;rintro e w1 ⟨rfl,hb1⟩);go_ret;exact⟨_,rfl,by rw[zy2 HM.out HQ.out];simp,hbel.trans (hb1.mono hsz)⟩
  ·go_wp2;go_ret;refine⟨_,rfl,?_,hbel⟩;have h0:=HNO.out;rw[List.take_of_length_le (by omega)]at h0;rw[h0];simp
theorem contains_edges(l:List zab)(v:Value)(q:zab->Bool)(p1 p2 p3:Value)(w:World)(hI:zaj w v l)(hlen:l.length<=140737488351)
  (hp:∀W:World,Below w.heap.size w W->∀e∈l,Calls Tryz.prog 111 #[.agg #[.int .i64 e.1,.int .i64 e.2],p1,p2,p3] W fun r w'=>r=.returned (.bool (q e))/\Below W.heap.size W w') :
  Calls Tryz.prog 72 #[v,.func (.func 111) #[] #[p1,p2,p3]] w fun r w'=>r=.returned (.bool (l.any q))/\Below w.heap.size w w':=by
 have HC:Hid (Calls Tryz.prog 132 #[v,.func (.func 111) #[] #[p1,p2,p3]] w fun r w'=>∃n:Int,r=.returned (.int .i64 n)/\(decide (0<=n)=l.any q)/\Below w.heap.size w w'):=znF l v q p1 p2 p3 w hI hlen hp;clear hp hI;go_enter Tryz.func72,Tryz.ntmps72;go_wp2_with (go_at_call 132;refine HC.out.mono ?_;rintro e w1 ⟨n,rfl,hn,hb1⟩);all_goals go_ret
 all_goals exact⟨ret_bool (by simp_all),hb1⟩
end Go.Proofs.YthlhgiihngcobaaGreatDoor
