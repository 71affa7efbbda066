/-
  PROVED HERE: slices.Values over a row of whole numbers hands each to the loop's body, in order; package danger over a run of package course (as it lies in memory); package danger over a run of package course (as it lies in memory); package danger.
  Conditions: none but those that each theorem's own premises say.
-/
import Derived.Test.YthlhgiihngcobaaGreatDoorMgbs
import Derived.Test.YthlhgiihngcobaaGreatDoorMgbw
import Derived.RangeFuncNested
import Derived.RangeFuncBox
import Derived.RangeFuncBound
import Derived.RangeFuncCalls
import Derived.RangeFuncLeaves
import Derived.Shelf.Abstract
import Derived.Shelf.RegionOpen
import Derived.WalkKit
import Derived.OwnWalkIn
import Derived.TacticsInMore
import Derived.LoopNIn
import Derived.LoopIn
import Derived.Maps.AppendAt
import Derived.Test.YthlhgiihngcobaaGreatDoorMgbt
import Derived.Test.YthlhgiihngcobaaGreatDoorMgaj
import Derived.Test.YthlhgiihngcobaaGreatDoorMgbb
import Derived.Test.YthlhgiihngcobaaGreatDoorMgbv
set_option maxHeartbeats 32000000
set_option maxRecDepth 100000
namespace Go.Proofs.YthlhgiihngcobaaGreatDoor
open Go.RowKit Go.Shelf
attribute [local go_sem] Oper.semAt_some
def zg8(zs:List Int)(k:Nat):List Int:=zs.take k
theorem zrh(zs:List Int){k:Nat}(h:k<zs.length):zg8 zs (k+1)=zg8 zs k++[zs.getD k 0]:=by unfold zg8;rw[List.take_succ_eq_append_getElem h];simp[List.getD,List.getElem?_eq_getElem h]
theorem zmn(zs:List Int){k:Nat}(h:k<=zs.length):(zg8 zs k).length=k:=by unfold zg8;rw[List.length_take];omega
theorem zpU(F:Fence)(n:Nat)(h7:F.fn 209)(hro:F.round=none)(hn:1<=n)(l Bs n₀ b off cap:Nat)(ad:Option Addr)(zs:List Int)(hreach:zs.length<=10000)(J Jx:List Int->World->Prop)
  (hY:∀pre x W,J pre W->pre.length<zs.length->YieldAt F (n-1) Tryz.prog l #[.int .i64 x] W fun e W' =>(e=.returned (.bool true)/\J (pre++[x]) W'/\Below n₀ W W')\/(e=.returned (.bool false)/\Jx (pre++[x]) W'))
  (W:World) (hBs:W.cell? ⟨Bs,0,none⟩=some (.slice ad zs.length cap)) (hc:∀j,j<zs.length->ad=some ⟨b,off,none⟩/\b<n₀/\W.cell? ⟨b,off+j,none⟩=some (.int .i64 (zs.getD j 0))) (h0:J [] W) :
  CallsIn F n Tryz.prog 209 #[.func (.yield l) #[] #[],.pointer (some ⟨Bs,0,none⟩)] W fun e W'=>(∃v,e=.returned v) /\
   ((∃ys,ys=zs/\J ys W')\/(∃pre,(∃k,k<=zs.length/\pre=zg8 zs k)/\Jx pre W')):=by
 obtain⟨N,hN⟩:∃N,zs.length=N:=⟨_,rfl⟩;rw[hN]at hBs hreach;have HC:Hid (∀j,j<N->ad=some ⟨b,off,none⟩/\b<n₀/\W.cell? ⟨b,off+j,none⟩=some (.int .i64 (zs.getD j 0))):=fun j hj=>hc j (by rw[hN];exact hj);have HY:Hid (∀pre x W,J pre W->pre.length<N->YieldAt F (n-1) Tryz.prog l #[.int .i64 x] W fun e W'=>(e=.returned (.bool true)/\J (pre++[x]) W'/\Below n₀ W W')\/(e=.returned (.bool false)/\Jx (pre++[x]) W')):=fun pre x W h1 h2=>hY pre x W h1 (by rw[hN];exact h2);have HN:=zae hN;clear hc hY hN;refine callsIn_of_wp Tryz.func209 rfl h7 ?_ hro;simp only[Tryz.ntmps209,List.size_toArray,List.length_cons,List.length_nil,Nat.reduceAdd,Nat.reduceSub,Array.replicate_succ,Array.replicate_zero,List.push_toArray,List.append_toArray,List.nil_append,List.cons_append];gi_wp2
 gi_loopw [7] (fun i wr=>∃k:Nat,k<=N/\i=.int .i64 k/\J (zg8 zs k) wr/\Below n₀ W wr)
  (fun i _=>N-(intOf i).toNat)
 case atStart=>exact⟨0,Nat.zero_le _,rfl,h0,Below.refl _ _⟩
 case round =>
  obtain⟨k,hk,rfl,hJs,hnx⟩:=hrel;by_cases hlt:k<N
  ·have hlt':(k:Int)<(N:Int):=by omega
   obtain⟨rfl,hbn,hcx⟩:=HC.out k hlt;have hcx':=(hnx.cell (p:=⟨b,off+k,none⟩) hbn).trans hcx;have HU:Hid (zg8 zs (k+1)=zg8 zs k++[zs.getD k 0]):=zrh zs (by rw[HN.out];exact hlt);obtain⟨x,hx⟩:∃x,zs.getD k 0=x:=⟨_,rfl⟩;rw[hx]at hcx hcx' HU;obtain⟨fn,tmps,assign,body,hy,hR⟩:=HY.out _ x wr hJs (by rw[zmn zs (by rw[HN.out];omega)];exact hlt);clear hx;gi_wp2;refine hR.mono ?_;rintro e W3 (⟨rfl,hJ3,hk3⟩ | ⟨rfl,hJx3⟩)
   ·gi_wp2;go_roundw
    case rel=>exact⟨k+1,by omega,by simp,by rw[HU.out];exact hJ3,hnx.trans hk3⟩
    case measure=>simp[intOf];omega
   ·gi_wp2;refine bodyPost_ret (results_none rfl _ _ _) rfl ?_;exact⟨⟨_,rfl⟩,.inr ⟨_,⟨k+1,by have:=HN.out;omega,rfl⟩,by rw[HU.out];exact hJx3⟩⟩
  ·have hlt':¬(k:Int)<(N:Int):=by omega
   obtain rfl:k=N:=by omega
   gi_wp2;go_end0;have hal:zg8 zs k=zs:=by unfold zg8;rw[List.take_of_length_le (by have:=HN.out;omega)]
   rw[hal]at hJs;exact⟨⟨_,rfl⟩,.inl hJs⟩
theorem zll(F:Fence)(n:Nat)(h7:F.fn 209)(hro:F.round=none)(hn:1<=n)(Bs n₀ b off cap:Nat)(ad:Option Addr)(zs:List Int)(hreach:zs.length<=10000)(w:World)(hBs:Bs<w.heap.size)(hn₀:n₀<=w.heap.size)
  (hc:w.cell? ⟨Bs,0,none⟩=some (.slice ad zs.length cap)) (hI:∀j,j<zs.length->ad=some ⟨b,off,none⟩/\b<n₀/\w.cell? ⟨b,off+j,none⟩=some (.int .i64 (zs.getD j 0))) :
  SeqStopsK F n Tryz.prog 209 #[.pointer (some ⟨Bs,0,none⟩)] (fun x:Int=>#[Value.int .i64 x]) (Below n₀) (fun ys=>ys=zs)
   (fun pre=>∃k,k<=zs.length/\pre=zg8 zs k) zs.length w:=fun l J Jx W hW _ _ hY h0 =>
 zpU F n h7 hro hn l Bs n₀ b off cap ad zs hreach J Jx hY W ((hW.cell (p:=⟨Bs,0,none⟩) hBs).trans hc) (fun j hj=>⟨(hI j hj).1,(hI j hj).2.1,(hW.cell (p:=⟨b,off+j,none⟩) (by have:=(hI j hj).2.1;show b<_;omega)).trans (hI j hj).2.2⟩) h0
theorem values_fn(a:Option Addr)(len cap:Nat)(w:World):Calls Tryz.prog 168 #[.slice a len cap] w fun e w'=>e=.returned (.func (.func 209) #[] #[.pointer (some ⟨w.heap.size,0,none⟩)])/\w'=w.alloc (.cells #[.slice a len cap] 24):=by go_enter Tryz.func168,Tryz.ntmps168;go_wp2_with fail;go_ret;exact⟨rfl,rfl⟩
theorem zln(zs:List Int)(Bs b off cap:Nat)(ad:Option Addr)(hlen:zs.length<=10000)(w:World)(hBs:Bs<w.heap.size)(hc:w.cell? ⟨Bs,0,none⟩=some (.slice ad zs.length cap))(hI:∀j,j<zs.length->ad=some ⟨b,off,none⟩/\b<w.heap.size/\w.cell? ⟨b,off+j,none⟩=some (.int .i64 (zs.getD j 0))):Calls Tryz.prog 239 #[.slice none 0 0,.func (.func 209) #[] #[.pointer (some ⟨Bs,0,none⟩)]] w fun e W'=>∃v,e=.returned v/\W'.ownsRow w.heap.size 3 1 v zs.length (zs.map (Value.int .i64))/\Below w.heap.size w W':=by
 obtain⟨i0,hi,hz0,hz1,hz2⟩:=info_parts zbK;refine(callsIn_wide (n:=4)).1 ?_;refine callsIn_of_wp_marks Tryz.func239 rfl trivial ?_ rfl;simp only[Tryz.ntmps239,List.size_toArray,List.length_cons,List.length_nil,Nat.reduceAdd,Nat.reduceSub,Array.replicate_succ,Array.replicate_zero,List.push_toArray,List.append_toArray,List.nil_append,List.cons_append];gi_wp2;have bO:=Boxed.new w 24 (.slice none 0 0);have hB0:Below w.heap.size w (w.alloc (.cells #[.slice none 0 0] 24)):=(Below.refl _ w).alloc (Nat.le_refl _) _
 refine wpIn_rangeFunc_ownG rfl (by omega) (gf:=209) (lb:=#[.pointer (some ⟨Bs,0,none⟩)]) rfl trivial (enters_of Tryz.func209 (by kernel_rfl) rfl)
  (zll Fence.wide _ trivial rfl (by omega) Bs w.heap.size b off cap ad zs hlen _ (by simp;omega) (by simp) ((hB0.cell (p:=⟨Bs,0,none⟩) hBs).trans hc) (fun j hj=>⟨(hI j hj).1,(hI j hj).2.1,(hB0.cell (p:=⟨b,off+j,none⟩) (hI j hj).2.1).trans (hI j hj).2.2⟩)) belowK_t (belowK_b (by simp)) (Below.refl _ _) (fun _=>rfl)
  (fun pre W=>(∃v,Boxed W w.heap.size 24 v/\W.ownsRow w.heap.size 3 1 v pre.length (pre.map (Value.int .i64))/\True)/\Below w.heap.size w W)
  (fun _ _ _=>False)
  (OwnFrom.and (Own.from (holdsRow_own w.heap.size w.heap.size 24 3 1 (fun pre:List Int=>pre.length) (fun pre=>pre.map (Value.int .i64)) (fun _ _=>True)) _) (ownFrom_below (Nat.le_refl _) (by simp)))
  (fun _ _ _ _ _ hs _ _=>hs)
  ⟨⟨_,bO,World.ownsRow_nil _ _ _ _,trivial⟩,hB0⟩
  (fun x=>{ tmps:=#[.slice none 0 0,.func (.func 209) #[] #[.pointer (some ⟨Bs,0,none⟩)],.pointer (some ⟨w.heap.size,0,none⟩),undef,.slice none 0 0,.int .i64 x,.func (.func 209) #[] #[.pointer (some ⟨Bs,0,none⟩)],.int .i64 x,undef,undef,undef,undef,undef],defers:=[] }) ?assign ?body ?done ?stop
 case assign =>intro l x W K hK;gi_wp2;exact hK
 case body =>rintro l pre x W ⟨⟨v,hv,hrow,_⟩,hB⟩ hlt;have hc:=hv.cell;gi_wp2_with (gi_at_builtin;refine wpListIn_append_own _ rfl _ _ 24 rfl w.heap.size 3 i0 (.int .i64 0) 1 8 Tryz.underlying24 hi hz0 hz1 hz2 rfl (by decide) _ _ _ rfl (hrow.alloc _) ⟨W.heap.size,0,none⟩ 1 1 [.int .i64 x] rfl rfl (cell_one_new _ _ _) (by simp[Value.oneCell']) (by unfold maxLen;omega) (by omega) (by have:=hB.size;simp;omega) ?_;intro v' w1 hown' hgrow _;obtain⟨g',cap',rfl⟩:=ownsRow_succ hown';obtain⟨hv1,hv2,hr2,hk2,hb2⟩:=hv.appended (by decide) hrow hB.size (Nat.le_refl _) hown' hgrow;have hc1:=hv1.cell;have hf1:=hv1.frozen);exact⟨hk2.from _,hb2,⟨_,hv2,by simpa using hr2,trivial⟩,hB.trans hb2⟩
 case done =>rintro D ys W hD rfl ⟨⟨v,hv,hrow,_⟩,hB⟩ hK;have hc:=hv.cell;gi_wp2;refine⟨by simp,.inl ⟨_,_,rfl,run_takeDeferred hK,?_⟩⟩;exact⟨_,results_tmp rfl _ _ _,v,rfl,ownsRow_putObj hrow _ hK rfl,hB.trans (belowK_b (w:=w) (Nat.le_refl _) W D _ _ (by simp at hD;omega) hK rfl rfl)⟩
 case stop =>rintro D c pre W _ _ h _;exact h.elim
theorem zkZ(hSort:ziV)(zs:List Int)(ad:Option Addr)(N cap:Nat)(w:World)(hI:zaf w (.slice ad N cap) zs)(hN:zs.length=N)(hlen:zs.length<=1000):Calls Tryz.prog 167 #[.func (.func 209) #[] #[.pointer (some ⟨w.heap.size,0,none⟩)]] (w.alloc (.cells #[.slice ad N cap] 24)) fun e w'=>∃v,e=.returned v/\w'.ownsRow w.heap.size 3 1 v N ((sortI zs).map (Value.int .i64))/\Below w.heap.size w w':=by
 obtain⟨W0,hW0⟩:∃W,W=w.alloc (.cells #[.slice ad N cap] 24):=⟨_,rfl⟩;have hb0:Below w.heap.size w W0:=by rw[hW0];exact(Below.refl _ w).alloc (Nat.le_refl _) _
 have kc:W0.cell? ⟨w.heap.size,0,none⟩=some (.slice ad zs.length cap):=by rw[hW0,hN];simp
 obtain⟨ad2,b,off,cap2,e1,ha,-,hbB,hcs⟩:=hI;injection e1 with e2 e3 e4
 have HAS:Hid (Calls Tryz.prog 239 #[.slice none 0 0,.func (.func 209) #[] #[.pointer (some ⟨w.heap.size,0,none⟩)]] W0 fun e W'=>∃v,e=.returned v/\W'.ownsRow W0.heap.size 3 1 v zs.length (zs.map (Value.int .i64))/\Below W0.heap.size W0 W') :=
  zln zs w.heap.size b off cap ad (by omega) W0 (World.block_lt_of_cell? W0 _ kc) kc fun j hj=>by
   have hb:b<w.heap.size:=by
    rcases hbB with h | h
    ·exact h
    ·rw[h]at hj;simp at hj
   exact⟨by rw[e2];exact ha (by omega),Nat.lt_of_lt_of_le hb hb0.size,(hb0.cell (p:=⟨b,off+j,none⟩) hb).trans (hcs j hj)⟩
 rw[hN]at HAS;rw[<-hW0];obtain⟨P,hP⟩:∃P,w.heap.size=P:=⟨_,rfl⟩;rw[hP]at HAS ⊢;have HCO:Hid (Calls Tryz.prog 208 #[.func (.func 209) #[] #[.pointer (some ⟨P,0,none⟩)]] W0 fun e W'=>∃v,e=.returned v/\W'.ownsRow W0.heap.size 3 1 v N (zs.map (Value.int .i64))/\Below W0.heap.size W0 W'):=by show Calls _ _ _ _ _;clear hb0 hW0 kc ha hbB hcs hP e2 e3 e4 hN hlen;go_enter Tryz.func208,Tryz.ntmps208;go_wp2_with fail;refine HAS.out.mono ?_;rintro e w1 ⟨v1,rfl,ho1,hb1⟩;have HO1:=zae ho1;obtain⟨ad1,c1,rfl,-⟩:=zad ho1;clear ho1;go_wp2_with fail;go_ret;exact⟨_,rfl,HO1.out,hb1⟩
 have HB0:=zae hb0;have HSO:=zae hSort;have HP:=zae hP;have HN:=zae hN;have HL:=zae hlen;clear hb0 hW0 kc ha hbB hcs hP HAS hSort hN hlen e2 e3 e4;go_enter Tryz.func167,Tryz.ntmps167;go_wp2_with fail;refine HCO.out.mono ?_;rintro e w1 ⟨v1,rfl,ho1,hb1⟩;have HO1:=zae ho1;have HB1:=zae hb1;obtain⟨ad1,c1,rfl,-⟩:=zad ho1;have HS1:=zae (HSO.out zs _ _ N w1 HN.out HL.out ho1);clear ho1 hb1;go_wp2_with fail;refine HS1.out.mono ?_;rintro e w2 ⟨rfl,ho2,hg2⟩;have HO2:=zae ho2;have HB2:Hid (Below W0.heap.size W0 w2):=HB1.out.grown hg2 HB1.out.size fun k hk=>(HO1.out.lt k hk).1;clear ho2 hg2;go_wp2_with fail;go_ret;exact⟨_,rfl,zhm HO2.out (by rw[<-HP.out];exact HB0.out.size),by rw[<-HP.out];exact HB0.out.trans (HB2.out.mono HB0.out.size)⟩
end Go.Proofs.YthlhgiihngcobaaGreatDoor
namespace Go.Proofs.YthlhgiihngcobaaGreatDoor
open Go.RowKit
theorem zxx{w0 w:World}{R:Nat}{S F:Value}{q:Crs}{c:zbZ}(h:zaq w0 w R S F q c)(hq:zaR 1000 q)(t o:Int)(x:Op3)(ho1:1<=o)(ho6:o<=6)(P1 P2 P3:Nat)(k1:w.cell? ⟨P1,0,none⟩=some (.int .i64 t))(k2:w.cell? ⟨P2,0,none⟩=some (.pointer (some ⟨R,0,none⟩)))(k3:w.cell? ⟨P3,0,none⟩=some (.int .i64 o)):Calls Tryz.prog 266 (#[seV x] ++ #[.pointer (some ⟨P1,0,none⟩),.pointer (some ⟨P2,0,none⟩),.pointer (some ⟨P3,0,none⟩)]) w fun e w'=>e=.returned (.bool (x.2.2 != t && inB (q.wrote o) x.2.1))/\Below w.heap.size w w':=by
 obtain⟨a,i,f⟩:=x;have HC:Hid (∀W,Below w.heap.size w W->Calls Tryz.prog 155 #[.pointer (some ⟨R,0,none⟩),.int .i64 o,.int .i64 i] W fun e w'=>e=.returned (.bool (inB (q.wrote o) i))/\w'=W):=fun W hW=>zde (h.below hW) ho1 ho6 i (hq.lenW _);have l1:=World.block_lt_of_cell? w _ k1;have l2:=World.block_lt_of_cell? w _ k2;have l3:=World.block_lt_of_cell? w _ k3;unfold seV;simp only at l1 l2 l3;clear h hq;cases hf:(f != t)with
 | false =>go_enter Tryz.func266,Tryz.ntmps266;go_wp2_with fail;go_ret;exact⟨rfl,(Below.refl _ w).alloc (Nat.le_refl _) _⟩
 | true =>go_enter Tryz.func266,Tryz.ntmps266;go_wp2_with (go_at_call 155;refine(HC.out _ ((Below.refl _ w).alloc (Nat.le_refl _) _)).mono ?_;rintro e w1 ⟨rfl,hw1⟩;rw[hw1];clear hw1);go_ret;exact⟨rfl,(Below.refl _ w).alloc (Nat.le_refl _) _⟩
theorem zrk:∀(args:Array Value) (W:World),(callFunc 266 args).run Tryz.prog W=.ok (.enter 266 args) W:=fun args W=>by kernel_rfl
theorem zzI{w0 w:World}{R:Nat}{S F:Value}{q:Crs}{c:zbZ}(h:zaq w0 w R S F q c)(hq:zaR 1000 q){a b:Int}(ha1:1<=a)(ha6:a<=6)(hb1:1<=b)(hb6:b<=6):Calls Tryz.prog 237 #[.pointer (some ⟨R,0,none⟩),.int .i64 a,.int .i64 b] w fun e w'=>e=.returned (.bool (zkb q a b))/\Below w.heap.size w w':=by
 have HR:Hid (∀W,Below w.heap.size w W->Calls Tryz.prog 149 #[.pointer (some ⟨R,0,none⟩),.int .i64 a] W fun e w'=>∃v',e=.returned v'/\w'.ownsRow W.heap.size 230 3 v' (q.read a).length (flat (q.read a))/\Below W.heap.size W w'):=fun W hW=>zjZ (h.below hW) ha1 ha6 (hq.lenR a);have HC:Hid (∀W,Below w.heap.size w W->∀v P1 P2 P3,zai W v (q.read a)->W.cell? ⟨P1,0,none⟩=some (.int .i64 a)->W.cell? ⟨P2,0,none⟩=some (.pointer (some ⟨R,0,none⟩))->W.cell? ⟨P3,0,none⟩=some (.int .i64 b)->Calls Tryz.prog 153 #[v,.func (.func 266) #[] #[.pointer (some ⟨P1,0,none⟩),.pointer (some ⟨P2,0,none⟩),.pointer (some ⟨P3,0,none⟩)]] W fun r w'=>r=.returned (.bool (zkb q a b))/\Below W.heap.size W w'):=fun W hW v P1 P2 P3 hv k1 k2 k3=>by refine zdy (q.read a) v (fun x=>x.2.2 != a && inB (q.wrote b) x.2.1) _ _ W zrk hv (by have:=hq.lenR a;omega) fun W2 hW2 e _=>?_;exact zxx (h.below (hW.trans (hW2.mono hW.size))) hq a b e hb1 hb6 P1 P2 P3 ((hW2.cell (p:=⟨P1,0,none⟩) (World.block_lt_of_cell? W _ k1)).trans k1) ((hW2.cell (p:=⟨P2,0,none⟩) (World.block_lt_of_cell? W _ k2)).trans k2) ((hW2.cell (p:=⟨P3,0,none⟩) (World.block_lt_of_cell? W _ k3)).trans k3)
 obtain⟨N,hN⟩:∃N,(q.read a).length=N:=⟨_,rfl⟩;rw[hN]at HR;have HN:=zae hN;obtain⟨r,hr⟩:∃r,zkb q a b=r:=⟨_,rfl⟩;rw[hr]at HC ⊢;clear h hq ha1 ha6 hb1 hb6 hN hr;go_enter Tryz.func237,Tryz.ntmps237;obtain⟨P,hP⟩:∃P,w.heap.size=P:=⟨_,rfl⟩;go_wp2_with fail;obtain⟨W,hW⟩:∃W,W=((w.alloc (.cells #[.pointer (some ⟨R,0,none⟩)] 167)).alloc (.cells #[.int .i64 a] 3)).alloc (.cells #[.int .i64 b] 3):=⟨_,rfl⟩;rw[<-hW];have hbW:Below w.heap.size w W:=by rw[hW];exact(((Below.refl _ w).alloc (Nat.le_refl _) _).alloc (by simp) _).alloc (by simp;omega) _
 have k2:W.cell? ⟨P,0,none⟩=some (.pointer (some ⟨R,0,none⟩)):=by rw[hW,<-hP];exact(((Boxed.new w _ _).alloc _).alloc _).cell
 have k1:W.cell? ⟨P+1,0,none⟩=some (.int .i64 a):=by have:=((Boxed.new (w.alloc (.cells #[.pointer (some ⟨R,0,none⟩)] 167)) 3 (.int .i64 a)).alloc (.cells #[.int .i64 b] 3)).cell;rw[World.size_alloc,hP]at this;rw[hW];exact this
 have k3:W.cell? ⟨P+1+1,0,none⟩=some (.int .i64 b):=by have:=(Boxed.new ((w.alloc (.cells #[.pointer (some ⟨R,0,none⟩)] 167)).alloc (.cells #[.int .i64 a] 3)) 3 (.int .i64 b)).cell;rw[World.size_alloc,World.size_alloc,hP]at this;rw[hW];exact this
 clear hW;refine(HR.out W hbW).mono ?_;rintro e w1 ⟨v1,rfl,ho1,hb1⟩;obtain⟨ad1,cp1,rfl,-⟩:=zad ho1;have HB1:Hid (Below w.heap.size w w1):=hbW.trans (hb1.mono hbW.size);have HCC:=zae (HC.out w1 HB1.out (.slice ad1 N cp1) (P+1) P (P+1+1) (zbH ho1 HN.out) ((hb1.cell (p:=⟨P+1,0,none⟩) (World.block_lt_of_cell? W _ k1)).trans k1) ((hb1.cell (p:=⟨P,0,none⟩) (World.block_lt_of_cell? W _ k2)).trans k2) ((hb1.cell (p:=⟨P+1+1,0,none⟩) (World.block_lt_of_cell? W _ k3)).trans k3));clear ho1 hb1 k1 k2 k3 hbW hP;go_wp2_with fail;refine HCC.out.mono ?_;rintro e w5 ⟨rfl,hb5⟩;go_wp2_with fail;go_ret;exact⟨rfl,HB1.out.trans (hb5.mono HB1.out.size)⟩
end Go.Proofs.YthlhgiihngcobaaGreatDoor
namespace Go.Proofs.YthlhgiihngcobaaGreatDoor
open Go.RowKit
def zdP(is:Int->Int->Bool)(ds:List Int)(x:Int)(r:List Int)(j:Nat):List zab:=(((ds.drop j).filter (is x)).map fun y=>(x,y))++edgesG is ds r
theorem zhY{r:List Int}{j:Nat}(h:j<r.length):r.drop j=r.getD j 0::r.drop (j+1):=by rw[List.drop_eq_getElem_cons h];simp[List.getD,List.getElem?_eq_getElem h]
theorem zuj(is:Int->Int->Bool)(ds:List Int)(x:Int)(r:List Int):zdP is ds x r ds.length=edgesG is ds r:=by unfold zdP;rw[List.drop_length];rfl
theorem zsx{is:Int->Int->Bool}{ds:List Int}{x:Int}{r:List Int}{j:Nat}(h:j<ds.length)(hq:is x (ds.getD j 0)=true)(out:List zab):(out++[(x,ds.getD j 0)])++zdP is ds x r (j+1)=out++zdP is ds x r j:=by unfold zdP;rw[zhY h,List.filter_cons,if_pos hq];simp
theorem zqp{is:Int->Int->Bool}{ds:List Int}{x:Int}{r:List Int}{j:Nat}(h:j<ds.length)(hq:is x (ds.getD j 0)=false):zdP is ds x r (j+1)=zdP is ds x r j:=by unfold zdP;rw[zhY h,List.filter_cons,if_neg (by rw[hq];decide)]
theorem zop{is:Int->Int->Bool}{ds:List Int}{i:Nat}(h:i<ds.length):zdP is ds (ds.getD i 0) (ds.drop (i+1)) 0=edgesG is ds (ds.drop i):=by rw[zhY h];unfold zdP;rw[List.drop_zero,edgesG]
theorem zxp(hSort:ziV){w0 w:World}{R:Nat}{S F:Value}{q:Crs}{c:zbZ}(h:zaq w0 w R S F q c)(hq:zaR 1000 q)(es:List Int)(v:Value)(hI:zaf w v es)(hel:es.length<=1000)(hes:∀t∈es,1<=t/\t<=6/\(q.began t).isSome=true):Calls Tryz.prog 203 #[.pointer (some ⟨R,0,none⟩),v] w fun e w'=>∃v',e=.returned v'/\zaj w' v' (zr5 q es)/\Below w.heap.size w w':=by
 have hI':=hI;obtain⟨ad0,b0,off0,cap0,rfl,-⟩:=hI';have HSO:Hid (Calls Tryz.prog 167 #[.func (.func 209) #[] #[.pointer (some ⟨w.heap.size,0,none⟩)]] (w.alloc (.cells #[.slice ad0 es.length cap0] 24)) fun e w'=>∃v,e=.returned v/\w'.ownsRow w.heap.size 3 1 v es.length ((sortI es).map (Value.int .i64))/\Below w.heap.size w w'):=zkZ hSort es ad0 es.length cap0 w hI rfl hel;have HVA:=zae (values_fn ad0 es.length cap0 w);unfold zr5;obtain⟨ds,hds⟩:∃ds,sortI es=ds:=⟨_,rfl⟩;have hdl:ds.length=es.length:=by rw[<-hds];exact(zay es).length_eq
 have HDS:Hid (∀t∈ds,1<=t/\t<=6/\(q.began t).isSome=true):=fun t ht=>hes t ((zay es).mem_iff.1 (by rw[hds];exact ht));obtain⟨n,hn⟩:∃n,es.length=n:=⟨_,rfl⟩;rw[hn]at hdl hel HSO HVA;rw[hds]at HSO;rw[hds,hn];have HG:Hid ((edgesG (zBP q) ds ds).length<=1000000):=by show _<=_;refine Nat.le_trans (zjI _ ds ds) ?_;rw[hdl];exact Nat.mul_le_mul hel hel
 have HN:=zae hdl;have HL:=zae h;have HQ:=zae hq;have HT:Hid (∀W,Below w.heap.size w W->∀a∈ds,∀b∈ds,Calls Tryz.prog 236 #[.pointer (some ⟨R,0,none⟩),.int .i64 a,.int .i64 b] W fun e w'=>e=.returned (.bool (isT q a b))/\Below W.heap.size W w'):=fun W hW a ha b hb =>zw7 (h.below hW) hq (HDS.out a ha).1 (HDS.out a ha).2.1 (HDS.out b hb).1 (HDS.out b hb).2.1 (HDS.out a ha).2.2 (HDS.out b hb).2.2;have HV:Hid (∀W,Below w.heap.size w W->∀a∈ds,∀b∈ds,Calls Tryz.prog 237 #[.pointer (some ⟨R,0,none⟩),.int .i64 a,.int .i64 b] W fun e w'=>e=.returned (.bool (zkb q a b))/\Below W.heap.size W w'):=fun W hW a ha b hb =>zzI (h.below hW) hq (HDS.out a ha).1 (HDS.out a ha).2.1 (HDS.out b hb).1 (HDS.out b hb).2.1;obtain⟨i0,hi,hz0,hs0,hy0⟩:=info_parts zg9;have HI:Hid (Tryz.prog.info? 131=some i0/\i0.zero=some (.agg #[.int .i64 0,.int .i64 0])/\i0.size=2/\i0.bytes=16):=⟨hi,hz0,hs0,hy0⟩;obtain⟨is,his⟩:∃is,zBP q=is:=⟨_,rfl⟩;have HIS:Hid (∀a b,is a b=((a != b && isT q a b) && zkb q a b)):=fun a b=>by rw[<-his];rfl
 rw[his]at HG ⊢;clear hi hz0 hs0 hy0 h hq hI hds hn hes hdl his hSort;go_enter Tryz.func203,Tryz.ntmps203;go_wp2_with fail;refine HVA.out.mono ?_;rintro e w1 ⟨rfl,rfl⟩;go_wp2_with fail;refine HSO.out.mono ?_;rintro e w1 ⟨v1,rfl,ho1,hb1⟩;have HB1:=zae hb1;have hI1:=zap ho1 HN.out;obtain⟨ad,b,off,cap,rfl,ha,-,hbB,hc⟩:=hI1
 have HE:Hid (∀W,Below w1.heap.size w1 W->∀k,k<n->ad=some ⟨b,off,none⟩/\b<W.heap.size/\W.cell? ⟨b,off+k,none⟩=some (.int .i64 (ds.getD k 0))):=fun W hW k hk=>by
  have hk':k<ds.length:=by rw[HN.out];exact hk
  have hb:b<w1.heap.size:=by
   rcases hbB with h | h
   ·exact h
   ·rw[h]at hk';simp at hk'
  exact⟨ha (by omega),Nat.lt_of_lt_of_le hb hW.size,(hW.cell (p:=⟨b,off+k,none⟩) hb).trans (hc k hk')⟩
 rw[HN.out];clear ho1 hb1 ha hbB hc HSO HVA;go_wp2_with fail
 go_loopw [6,16] (fun v6 v16 wr=>∃(i:Nat) (out:List zab),i<=n/\v16=.int .i64 i/\wr.ownsRow w1.heap.size 131 2 v6 out.length (flatE out)/\out++edgesG is ds (ds.drop i)=edgesG is ds ds/\Below w1.heap.size w1 wr) (fun _ v16 _=>n-(intOf v16).toNat)
 case atStart=>exact⟨0,[],Nat.zero_le _,rfl,World.ownsRow_nil _ _ _ _,by rw[List.drop_zero];rfl,Below.refl _ _⟩
 case round =>
  obtain⟨i,out,hin,rfl,hown,hout,hbel⟩:=hrel;have HOWN:=zae hown;have HOUT:=zae hout;have HB:=zae hbel;clear hown hout hbel;by_cases hlt:i<n
  ·have hlt':(i:Int)<(n:Int):=by omega
   obtain⟨rfl,hbw,e0⟩:=HE.out wr HB.out i hlt;obtain⟨x,hx⟩:∃x,ds.getD i 0=x:=⟨_,rfl⟩;rw[hx]at e0;have HX:Hid (x∈ds):=by show x∈ds;rw[<-hx];exact zdV (by rw[HN.out];exact hlt)
   have HF:Hid (zdP is ds x (ds.drop (i+1)) 0=edgesG is ds (ds.drop i)):=by show _=_;rw[<-hx];exact zop (by rw[HN.out];exact hlt)
   obtain⟨WR,hWR⟩:∃W:World,W=wr:=⟨_,rfl⟩;subst hWR;clear hx;go_wp2_with fail
   go_loopw [6,22] (fun v6 v22 wr=>∃(j:Nat) (out:List zab),j<=n/\v22=.int .i64 j/\wr.ownsRow w1.heap.size 131 2 v6 out.length (flatE out)/\out++zdP is ds x (ds.drop (i+1)) j=edgesG is ds ds/\Below w1.heap.size w1 wr) (fun _ v22 _=>n-(intOf v22).toNat)
   case atStart=>exact⟨0,out,Nat.zero_le _,rfl,HOWN.out,by rw[HF.out];exact HOUT.out,HB.out⟩
   case round =>
    clear HOWN HOUT HB e0 hbw HF;obtain⟨j,out,hjm,rfl,hown,hout,hbel⟩:=hrel;have HOWN:=zae hown;have HOUT:=zae hout;have HB:=zae hbel;have hol:out.length<=1000000:=by have h1:=congrArg List.length hout;have h2:=HG.out;rw[List.length_append]at h1;omega
    clear hown hout hbel;by_cases hjl:j<n
    ·have hjl':(j:Int)<(n:Int):=by omega
     obtain⟨-,hbw2,f0⟩:=HE.out wr HB.out j hjl;obtain⟨y,hy⟩:∃y,ds.getD j 0=y:=⟨_,rfl⟩;rw[hy]at f0;have HY:Hid (y∈ds):=by show y∈ds;rw[<-hy];exact zdV (by rw[HN.out];exact hjl)
     have hjr:j<ds.length:=by rw[HN.out];exact hjl
     have HMS:Hid (is x y=false->out++zdP is ds x (ds.drop (i+1)) (j+1)=edgesG is ds ds):=fun hq=>by rw[zqp hjr (by rw[hy];exact hq)];exact HOUT.out
     have HHT:Hid (is x y=true->(out++[(x,y)])++zdP is ds x (ds.drop (i+1)) (j+1)=edgesG is ds ds):=fun hq=>by rw[<-HOUT.out,<-zsx hjr (by rw[hy];exact hq) out,hy]
     have HBW:Hid (Below w.heap.size w wr):=HB1.out.trans (HB.out.mono HB1.out.size);clear hy hjr;by_cases hxy:x=y
     ·have HQ:Hid (out++zdP is ds x (ds.drop (i+1)) (j+1)=edgesG is ds ds):=HMS.out (by rw[HIS.out,hxy];simp);subst hxy;go_wp2_with fail;go_roundw
      case rel=>exact⟨j+1,out,by omega,by go_num,HOWN.out,HQ.out,HB.out⟩
      case measure=>simp[intOf];omega
     ·have hne:(x != y)=true:=by simpa using hxy
      have HCT:=zae (HT.out wr HBW.out x HX.out y HY.out);cases hT:isT q x y with
      | false =>
        have HQ:Hid (out++zdP is ds x (ds.drop (i+1)) (j+1)=edgesG is ds ds):=HMS.out (by rw[HIS.out,hT];simp);rw[hT]at HCT;clear hT;go_wp2_with fail;refine HCT.out.mono ?_;rintro e w2 ⟨rfl,hb2⟩;have HB2:=zae hb2;clear hb2;go_wp2_with fail;go_roundw
        case rel=>exact⟨j+1,out,by omega,by go_num,(zac.of_below (F:=fun _=>False) HB2.out).own HOWN.out (fun _ _ hf=>hf),HQ.out,HB.out.trans (HB2.out.mono HB.out.size)⟩
        case measure=>simp[intOf];omega
      | true =>
        rw[hT]at HCT;have HTT:=zae hT;clear hT;go_wp2_with fail;refine HCT.out.mono ?_;rintro e w2 ⟨rfl,hb2⟩;have HB2:=zae hb2;have HCV:=zae (HV.out w2 (HBW.out.trans (hb2.mono HBW.out.size)) x HX.out y HY.out);clear hb2;cases hO:zkb q x y with
        | false =>
          have HQ:Hid (out++zdP is ds x (ds.drop (i+1)) (j+1)=edgesG is ds ds):=HMS.out (by rw[HIS.out,hO];simp);rw[hO]at HCV;clear hO;go_wp2_with fail;refine HCV.out.mono ?_;rintro e w3 ⟨rfl,hb3⟩;have HB3:Hid (Below wr.heap.size wr w3):=HB2.out.trans (hb3.mono HB2.out.size);clear hb3;go_wp2_with fail;go_roundw
          case rel=>exact⟨j+1,out,by omega,by go_num,(zac.of_below (F:=fun _=>False) HB3.out).own HOWN.out (fun _ _ hf=>hf),HQ.out,HB.out.trans (HB3.out.mono HB.out.size)⟩
          case measure=>simp[intOf];omega
        | true =>
          have HQ:Hid ((out++[(x,y)])++zdP is ds x (ds.drop (i+1)) (j+1)=edgesG is ds ds):=HHT.out (by rw[HIS.out,hO,HTT.out,hne];rfl);rw[hO]at HCV;obtain⟨ln,hln⟩:∃ln,out.length=ln:=⟨_,rfl⟩;have HLN:=zae hln;rw[hln]at HOWN hol;clear hO hln;go_wp2_with fail;refine HCV.out.mono ?_;rintro e w3 ⟨rfl,hb3⟩;have hb3':Below wr.heap.size wr w3:=HB2.out.trans (hb3.mono HB2.out.size);have hown1:w3.ownsRow w1.heap.size 131 2 u6 ln (flatE out):=(zac.of_below (F:=fun _=>False) hb3').own HOWN.out (fun _ _ hf=>hf);have HOW1:=zae hown1;have hbw1:Below w1.heap.size w1 w3:=HB.out.trans (hb3'.mono HB.out.size);have HBW1:=zae hbw1;have hsz1:=hbw1.size;clear hb3 hb3' hown1 hbw1;go_wp2_with (at_builtin;refine wpList_append_own _ rfl (.tmp 41) (.tmp 45) 89 rfl w1.heap.size 131 i0 (.agg #[.int .i64 0,.int .i64 0]) 2 16 Tryz.underlying89 HI.out.1 HI.out.2.1 HI.out.2.2.1 HI.out.2.2.2 rfl (by decide) u6 ln (flatE out) rfl (HOW1.out.alloc _) ⟨w3.heap.size,0,none⟩ 1 1 (flatE [(x,y)]) rfl rfl (zhe w3 x y) (zes _) (by unfold maxLen;omega) (by omega) (by simp;omega) ?_;intro v3 w4 hown3 hgr3 hnil3);have hB3:=(HBW1.out.alloc hsz1 _).grown hgr3 (by simp;omega) (fun k hk=>(HOW1.out.lt k hk).1);go_roundw
          case rel=>exact⟨j+1,out++[(x,y)],by omega,by go_num,by rw[List.length_append,HLN.out,zcf];exact hown3,HQ.out,hB3⟩
          case measure=>simp[intOf];omega
    ·have hjl':¬(j:Int)<(n:Int):=by omega
     have HQ:Hid (out++edgesG is ds (ds.drop (i+1))=edgesG is ds ds):=by show _=_;have h1:=HOUT.out;rw[show j=ds.length by rw[HN.out];omega,zuj]at h1;exact h1
     go_wp2_with fail;go_roundw
     case rel=>exact⟨i+1,out,by omega,by go_num,HOWN.out,HQ.out,HB.out⟩
     case measure=>simp[intOf];omega
  ·have hlt':¬(i:Int)<(n:Int):=by omega
   have HQ:Hid (out=edgesG is ds ds):=by show out=_;have h1:=HOUT.out;rw[List.drop_of_length_le (by have:=HN.out;omega),edgesG,List.append_nil]at h1;exact h1
   go_wp2_with fail;go_ret;exact⟨_,rfl,by rw[<-HQ.out];exact zbL HOWN.out rfl,HB1.out.trans (HB.out.mono HB1.out.size)⟩
end Go.Proofs.YthlhgiihngcobaaGreatDoor
namespace Go.Proofs.YthlhgiihngcobaaGreatDoor
open Go.RowKit
theorem zus:∀(args:Array Value) (W:World),(callFunc 234 args).run Tryz.prog W=.ok (.enter 234 args) W:=fun args W=>by kernel_rfl
theorem zsm:∀(args:Array Value) (W:World),(callFunc 235 args).run Tryz.prog W=.ok (.enter 235 args) W:=fun args W=>by kernel_rfl
theorem zAi(x:zab)(t:Int)(P:Nat)(w:World)(k:w.cell? ⟨P,0,none⟩=some (.int .i64 t)):Calls Tryz.prog 234 (#[edV x] ++ #[.pointer (some ⟨P,0,none⟩)]) w fun e w'=>e=.returned (.bool (x.2 == t))/\Below w.heap.size w w':=by
 obtain⟨a,b⟩:=x;have l1:=World.block_lt_of_cell? w _ k;unfold edV;simp only at l1;cases hf:(b == t)with
 | false =>go_enter Tryz.func234,Tryz.ntmps234;go_wp2_with fail;go_ret;exact⟨by first | rfl | rw[hf],(Below.refl _ w).alloc (Nat.le_refl _) _⟩
 | true =>go_enter Tryz.func234,Tryz.ntmps234;go_wp2_with fail;go_ret;exact⟨by first | rfl | rw[hf],(Below.refl _ w).alloc (Nat.le_refl _) _⟩
theorem zzS(x:zab)(t:Int)(P:Nat)(w:World)(k:w.cell? ⟨P,0,none⟩=some (.int .i64 t)):Calls Tryz.prog 235 (#[edV x] ++ #[.pointer (some ⟨P,0,none⟩)]) w fun e w'=>e=.returned (.bool (x.1 == t))/\Below w.heap.size w w':=by
 obtain⟨a,b⟩:=x;have l1:=World.block_lt_of_cell? w _ k;unfold edV;simp only at l1;cases hf:(a == t)with
 | false =>go_enter Tryz.func235,Tryz.ntmps235;go_wp2_with fail;go_ret;exact⟨by first | rfl | rw[hf],(Below.refl _ w).alloc (Nat.le_refl _) _⟩
 | true =>go_enter Tryz.func235,Tryz.ntmps235;go_wp2_with fail;go_ret;exact⟨by first | rfl | rw[hf],(Below.refl _ w).alloc (Nat.le_refl _) _⟩
end Go.Proofs.YthlhgiihngcobaaGreatDoor
