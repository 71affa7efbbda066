/-
  PROVED HERE: slices.IndexFunc and ContainsFunc at a list of deals of package versions, for any closure that answers by; nothing yet; package versions; slices.DeleteFunc at a row of numbers of one's own, for any closure that only reads.
  Conditions: none but those that each theorem's own premises say.
-/
import Derived.Test.YthlhgiihngcobaaGreatDoorMgbs
import Derived.Test.YthlhgiihngcobaaGreatDoorMgah
import Derived.Shelf.GgClosure.Gives
import Derived.Test.YthlhgiihngcobaaGreatDoorMgby
import Derived.Test.YthlhgiihngcobaaGreatDoorMgbu
import Derived.Test.YthlhgiihngcobaaGreatDoorMgbx
import Derived.Test.YthlhgiihngcobaaGreatDoorMgau
set_option maxHeartbeats 32000000
set_option maxRecDepth 100000
namespace Go.Proofs.YthlhgiihngcobaaGreatDoor
open Go.RowKit
theorem zow(l:List Int)(v:Value)(q:Int->Bool)(N:Nat)(C:Array Value)(w:World)(hcall:∀(args:Array Value) (W:World),(callFunc N args).run Tryz.prog W=.ok (.enter N args) W)(hI:zaf w v l)(hlen:l.length<=140737488351)
  (hp:∀W:World,Below w.heap.size w W->∀e∈l,Calls Tryz.prog N (#[.int .i64 e]++C) W fun r w'=>r=.returned (.bool (q e))/\Below W.heap.size W w') :
  Calls Tryz.prog 207 #[v,.func (.func N) #[] C] w fun r w'=>∃n:Int,r=.returned (.int .i64 n)/\zb4 l q n/\Below w.heap.size w w':=by
 have HI2:Hid (zaf w v l):=hI;obtain⟨ad,b,off,cap,rfl,ha,_,hbB,hops⟩:=hI
 have HO:Hid (∀W,Below w.heap.size w W->∀k,k<l.length->ad=some ⟨b,off,none⟩/\W.cell? ⟨b,off+k,none⟩=some (.int .i64 (l.getD k 0))):=fun W hW k hk=>⟨ha (by omega),by
  have hb:b<w.heap.size:=by
   rcases hbB with h | h
   ·exact h
   ·subst h;simp at hk
  exact(hW.cell (p:=⟨b,off+k,none⟩) hb).trans (hops k hk)⟩
 have HP:Hid (∀W:World,Below w.heap.size w W->∀e∈l,Calls Tryz.prog N (#[.int .i64 e]++C) W fun r w'=>r=.returned (.bool (q e))/\Below W.heap.size W w'):=hp;clear ha hbB hops hp HI2;go_enter Tryz.func207,Tryz.ntmps207;go_wp2
 go_loopw [8] (fun v8 wr=>∃k:Nat,k<=l.length/\v8=.int .i64 k/\(l.take k).any q=false/\Below w.heap.size w wr) (fun v8 _=>l.length-(intOf v8).toNat)
 case atStart=>exact⟨0,Nat.zero_le _,rfl,by simp,Below.refl _ _⟩
 case round =>
  obtain⟨k,hk,rfl,hno,hbel⟩:=hrel;have HNO:Hid ((l.take k).any q=false):=hno;clear hno;have hsz:=hbel.size;by_cases hlt:k<l.length
  ·have hlt':(k:Int)<(l.length:Int):=by omega
   obtain⟨rfl,c0⟩:=HO.out wr hbel k hlt;obtain⟨t,ho⟩:∃o:Int,l.getD k 0=o:=⟨_,rfl⟩;rw[ho]at c0;have hmem:t∈l:=by rw[<-ho];exact zdV hlt
   have HT:Hid (l.take (k+1)=l.take k++[t]):=by show l.take (k+1)=l.take k++[t];rw[List.take_succ_eq_append_getElem hlt,<-ho];simp[List.getD,List.getElem?_eq_getElem hlt]
   have HM:Hid (t∈l):=hmem;have HG:Hid (l.getD k 0=t):=ho;clear ho HO hmem;cases hq:q t with
   | false =>
     have HQ:Hid (q t=false):=hq;have HC:Hid (Calls Tryz.prog N (#[.int .i64 t]++C) wr fun r w'=>r=.returned (.bool false)/\Below wr.heap.size wr w'):=hq ▸HP.out wr hbel _ HM.out;clear hq;go_wp2_with fail;refine HC.out.mono ?_;rintro e w1 ⟨rfl,hb1⟩;go_wp2_with fail;go_roundw
     case rel=>exact⟨k+1,by omega,by go_num,zh8 HT.out HNO.out HQ.out,hbel.trans (hb1.mono hsz)⟩
     case measure=>simp[intOf];omega
   | true =>have HQ:Hid (q t=true):=hq;have HC:Hid (Calls Tryz.prog N (#[.int .i64 t]++C) wr fun r w'=>r=.returned (.bool true)/\Below wr.heap.size wr w'):=hq ▸HP.out wr hbel _ HM.out;clear hq;go_wp2_with fail;refine HC.out.mono ?_;rintro e w1 ⟨rfl,hb1⟩;go_wp2_with fail;go_ret;exact⟨_,rfl,zb4.some hlt HG.out HQ.out HNO.out,hbel.trans (hb1.mono hsz)⟩
  ·have hlt':¬(k:Int)<(l.length:Int):=by omega
   go_wp2_with fail;go_ret;refine⟨_,rfl,zb4.none ?_,hbel⟩;have h0:=HNO.out;rw[List.take_of_length_le (by omega)]at h0;exact h0
theorem ziN(l:List Int)(v:Value)(q:Int->Bool)(N:Nat)(C:Array Value)(w:World)(hcall:∀(args:Array Value) (W:World),(callFunc N args).run Tryz.prog W=.ok (.enter N args) W)(hI:zaf w v l)(hlen:l.length<=140737488351)
  (hp:∀W:World,Below w.heap.size w W->∀e∈l,Calls Tryz.prog N (#[.int .i64 e]++C) W fun r w'=>r=.returned (.bool (q e))/\Below W.heap.size W w') :
  Calls Tryz.prog 164 #[v,.func (.func N) #[] C] w fun r w'=>r=.returned (.bool (l.any q))/\Below w.heap.size w w':=by
 have HC:Hid (Calls Tryz.prog 207 #[v,.func (.func N) #[] C] w fun r w'=>∃n:Int,r=.returned (.int .i64 n)/\zb4 l q n/\Below w.heap.size w w'):=zow l v q N C w hcall hI hlen hp;clear hp hI hcall;go_enter Tryz.func164,Tryz.ntmps164;go_wp2_with (go_at_call 207;refine HC.out.mono ?_;rintro e w1 ⟨n,rfl,hn,hb1⟩;have hn1:=hn.sign;clear hn);all_goals go_ret
 all_goals exact⟨ret_bool (by simp_all),hb1⟩
end Go.Proofs.YthlhgiihngcobaaGreatDoor
namespace Go.Proofs.YthlhgiihngcobaaGreatDoor
open Go.RowKit
def zCb:Prop:=∀(ds:List Int) (p:Int->Bool) (N:Nat) (C:Array Value) (v:Value) (base n:Nat) (w:World),ds.length=n->ds.length<=1000->w.ownsRow base 3 1 v n (ds.map (Value.int .i64)) ->
 (∀(args:Array Value) (W:World),(callFunc N args).run Tryz.prog W=.ok (.enter N args) W) ->
 (∀W x,w.grownBy W v.ownBlock->Calls Tryz.prog N (#[.int .i64 x]++C) W fun e w'=>e=.returned (.bool (p x))/\∃q,w'=W.drewN q) ->
 Calls Tryz.prog 50 #[v,.func (.func N) #[] C] w fun e w'=>∃v',e=.returned v'/\zaf w' v' (ds.filter fun x=>!p x)/\w.grownBy w' v.ownBlock
end Go.Proofs.YthlhgiihngcobaaGreatDoor
namespace Go.Proofs.YthlhgiihngcobaaGreatDoor
open Go.RowKit
theorem zww{w0 w:World}{R:Nat}{S F:Value}{q:Crs}{c:zbZ}(h:zaq w0 w R S F q c)(hq:zaR 1000 q){t:Int}(h1:1<=t)(h6:t<=6)(x:Op3)(P1 P2:Nat)(k1:w.cell? ⟨P1,0,none⟩=some (.int .i64 t))(k2:w.cell? ⟨P2,0,none⟩=some (.pointer (some ⟨R,0,none⟩))):Calls Tryz.prog 166 (#[seV x] ++ #[.pointer (some ⟨P1,0,none⟩),.pointer (some ⟨P2,0,none⟩)]) w fun e w'=>e=.returned (.bool (zot q t x))/\Below w.heap.size w w':=by
 obtain⟨a,i,f⟩:=x;have HC:Hid (∀W,Below w.heap.size w W->Calls Tryz.prog 155 #[.pointer (some ⟨R,0,none⟩),.int .i64 t,.int .i64 i] W fun e w'=>e=.returned (.bool (inB (q.wrote t) i))/\w'=W):=fun W hW=>zde (h.below hW) h1 h6 i (hq.lenW _);have l1:=World.block_lt_of_cell? w _ k1;have l2:=World.block_lt_of_cell? w _ k2;unfold seV zot;simp only at l1 l2;clear h hq h1 h6;by_cases hf:f<t
 ·rw[decide_eq_true hf];go_enter Tryz.func166,Tryz.ntmps166;go_wp2_with (go_at_call 155;refine(HC.out _ ((Below.refl _ w).alloc (Nat.le_refl _) _)).mono ?_;rintro e w1 ⟨rfl,hw1⟩;rw[hw1];clear hw1);go_ret;exact⟨rfl,(Below.refl _ w).alloc (Nat.le_refl _) _⟩
 ·rw[decide_eq_false hf];go_enter Tryz.func166,Tryz.ntmps166;go_wp2_with fail;go_ret;exact⟨rfl,(Below.refl _ w).alloc (Nat.le_refl _) _⟩
theorem zrb:zbB 166:=fun _ _=>by kernel_rfl
theorem zqP:zbB 165:=fun _ _=>by kernel_rfl
theorem zwv{w0 w:World}{R:Nat}{S F:Value}{q:Crs}{c:zbZ}(h:zaq w0 w R S F q c)(hq:zaR 1000 q){t:Int}(h1:1<=t)(h6:t<=6)(o:Int)(ho1:1<=o)(ho6:o<=6)(P1 P2:Nat)(k1:w.cell? ⟨P1,0,none⟩=some (.int .i64 t))(k2:w.cell? ⟨P2,0,none⟩=some (.pointer (some ⟨R,0,none⟩))):Calls Tryz.prog 165 (#[.int .i64 o] ++ #[.pointer (some ⟨P1,0,none⟩),.pointer (some ⟨P2,0,none⟩)]) w fun e w'=>e=.returned (.bool (zvj q t o))/\Below w.heap.size w w':=by
 have HR:=zae (zjZ h ho1 ho6 (hq.lenR o));have HC:Hid (∀W,Below w.heap.size w W->∀v,zai W v (q.read o)->Calls Tryz.prog 153 #[v,.func (.func 166) #[] #[.pointer (some ⟨P1,0,none⟩),.pointer (some ⟨P2,0,none⟩)]] W fun r w'=>r=.returned (.bool ((q.read o).any (zot q t)))/\Below W.heap.size W w'):=fun W hW v hv=>by refine zdy (q.read o) v _ _ _ W zrb hv (by have:=hq.lenR o;omega) fun W2 hW2 e _=>?_;have hW3:Below w.heap.size w W2:=hW.trans (hW2.mono hW.size);exact zww (h.below hW3) hq h1 h6 e P1 P2 ((hW3.cell (p:=⟨P1,0,none⟩) (World.block_lt_of_cell? w _ k1)).trans k1) ((hW3.cell (p:=⟨P2,0,none⟩) (World.block_lt_of_cell? w _ k2)).trans k2)
 have l1:=World.block_lt_of_cell? w _ k1;have l2:=World.block_lt_of_cell? w _ k2;unfold zvj;simp only at l1 l2;obtain⟨n,hn⟩:∃n,(q.read o).length=n:=⟨_,rfl⟩;rw[hn]at HR;have HN:=zae hn;obtain⟨r,hr⟩:∃r,(q.read o).any (zot q t)=r:=⟨_,rfl⟩;rw[hr]at HC ⊢;clear h hq h1 h6 ho1 ho6 hn hr;by_cases hf:t<o
 ·rw[decide_eq_true hf];go_enter Tryz.func165,Tryz.ntmps165;go_wp2_with fail;refine HR.out.mono ?_;rintro e w1 ⟨v1,rfl,ho1,hb1⟩;have HCC:=zae (HC.out w1 hb1 v1 (zbH ho1 HN.out));have HB1:=zae hb1;obtain⟨ad1,c1,rfl,-⟩:=zad ho1;clear ho1 hb1;go_wp2_with fail;refine HCC.out.mono ?_;rintro e w2 ⟨rfl,hb2⟩;have HB2:Hid (Below w.heap.size w w2):=HB1.out.trans (hb2.mono HB1.out.size);clear hb2;go_wp2_with fail;go_ret;exact⟨rfl,HB2.out⟩
 ·rw[decide_eq_false hf];go_enter Tryz.func165,Tryz.ntmps165;go_wp2_with fail;go_ret;exact⟨rfl,Below.refl _ w⟩
theorem zuu:zbB 95:=fun _ _=>by kernel_rfl
theorem zzk(ds:List Int)(dv:Value)(h6d:∀t∈ds,1<=t/\t<=6)(hld:ds.length<=1000):zn5 (fun W=>zaf W dv ds) 95 #[dv] #[] (zf3 ds):=by
 intro w0 w R S F q c t hK h hq h1 h6 hb;have hq':=hq.more;have hI:zaf w dv ds:=hK.below h.old (Nat.le_refl _);have HC:Hid (∀W,Below w.heap.size w W->∀P1 P2,W.cell? ⟨P1,0,none⟩=some (.int .i64 t)->W.cell? ⟨P2,0,none⟩=some (.pointer (some ⟨R,0,none⟩))->Calls Tryz.prog 164 #[dv,.func (.func 165) #[] #[.pointer (some ⟨P1,0,none⟩),.pointer (some ⟨P2,0,none⟩)]] W fun r w'=>r=.returned (.bool (zf3 ds q t))/\Below W.heap.size W w'):=fun W hW P1 P2 k1 k2=>by refine ziN ds dv _ _ _ W zqP (hI.below hW (Nat.le_refl _)) (by omega) fun W2 hW2 e he=>?_;exact zwv (h.below (hW.trans (hW2.mono hW.size))) hq' h1 h6 e (h6d e he).1 (h6d e he).2 P1 P2 ((hW2.cell (p:=⟨P1,0,none⟩) (World.block_lt_of_cell? W _ k1)).trans k1) ((hW2.cell (p:=⟨P2,0,none⟩) (World.block_lt_of_cell? W _ k2)).trans k2)
 obtain⟨ad,b,off,cap,rfl,-⟩:=hI;obtain⟨n,hn⟩:∃n,ds.length=n:=⟨_,rfl⟩;rw[hn]at HC ⊢;show Calls Tryz.prog 95 #[.slice ad n cap,.pointer (some ⟨R,0,none⟩),.int .i64 t] w _;obtain⟨r,hr⟩:∃r,zf3 ds q t=r:=⟨_,rfl⟩;rw[hr]at HC ⊢;obtain⟨W0,hW0⟩:∃W,W=(w.alloc (.cells #[.pointer (some ⟨R,0,none⟩)] 167)).alloc (.cells #[.int .i64 t] 3):=⟨_,rfl⟩;have hb0:Below w.heap.size w W0:=by rw[hW0];exact((Below.refl _ w).alloc (Nat.le_refl _) _).alloc (by simp) _
 have c2:W0.cell? ⟨w.heap.size,0,none⟩=some (.pointer (some ⟨R,0,none⟩)):=by rw[hW0];exact((Boxed.new w 167 (.pointer (some ⟨R,0,none⟩))).alloc _).cell
 have c1:W0.cell? ⟨w.heap.size+1,0,none⟩=some (.int .i64 t):=by have:=(Boxed.new (w.alloc (.cells #[.pointer (some ⟨R,0,none⟩)] 167)) 3 (.int .i64 t)).cell;rw[World.size_alloc]at this;rw[hW0];exact this
 have HCC:=zae (HC.out W0 hb0 _ _ c1 c2);have HB0:=zae hb0;clear h hq hq' h1 h6 hb hn hr hK c1 c2 hb0 HC;go_enter Tryz.func95,Tryz.ntmps95
 go_upto_region 1 with(fail)
 rw[<-hW0];clear hW0;go_wp2_with fail;refine HCC.out.mono ?_;rintro e w1 ⟨rfl,hb1⟩;have HB1:Hid (Below w.heap.size w w1):=HB0.out.trans (hb1.mono HB0.out.size);clear hb1;go_wp2_with fail;go_ret;exact⟨rfl,HB1.out⟩
theorem zis(hSort:ziV){w0 w:World}{R:Nat}{S F:Value}{q:Crs}{c:zbZ}(h:zaq w0 w R S F q c)(hl:q.done.length<=1000):Calls Tryz.prog 97 #[.pointer (some ⟨R,0,none⟩)] w fun e w'=>∃v,e=.returned v/\w'.ownsRow w.heap.size 3 1 v q.done.length ((sortI q.done).map (Value.int .i64))/\Below w.heap.size w w':=by have HD:=zae (zpI h hl);have HS:Hid (∀(W:World) (ad:Option Addr) (cap:Nat),zaf W (.slice ad q.done.length cap) q.done->Calls Tryz.prog 167 #[.func (.func 209) #[] #[.pointer (some ⟨W.heap.size,0,none⟩)]] (W.alloc (.cells #[.slice ad q.done.length cap] 24)) fun e w'=>∃v,e=.returned v/\w'.ownsRow W.heap.size 3 1 v q.done.length ((sortI q.done).map (Value.int .i64))/\Below W.heap.size W w'):=fun W ad cap hI=>zkZ hSort q.done ad _ cap W hI rfl hl;obtain⟨n,hn⟩:∃n,q.done.length=n:=⟨_,rfl⟩;rw[hn]at HD HS ⊢;have HN:=zae hn;clear h hl hn hSort;go_enter Tryz.func97,Tryz.ntmps97;go_wp2_with fail;refine HD.out.mono ?_;rintro e w1 ⟨v1,rfl,ho1,hb1⟩;have HB1:=zae hb1;have hi1:=zap ho1 HN.out;obtain⟨ad1,c1,rfl,-⟩:=zad ho1;have HSS:=zae (HS.out w1 ad1 c1 hi1);clear ho1 hb1 hi1;go_wp2_with fail;refine(values_fn ad1 n c1 w1).mono ?_;rintro e w2 ⟨rfl,rfl⟩;go_wp2_with fail;refine HSS.out.mono ?_;rintro e w3 ⟨v3,rfl,ho3,hb3⟩;have HO3:=zae (zhm ho3 HB1.out.size);have HB3:Hid (Below w.heap.size w w3):=HB1.out.trans (hb3.mono HB1.out.size);obtain⟨ad3,c3,rfl,-⟩:=zad ho3;clear ho3 hb3;go_wp2_with fail;go_ret;exact⟨_,rfl,HO3.out,HB3.out⟩
theorem zt6:zbB 162:=fun _ _=>by kernel_rfl
theorem zzb(t x:Int)(P:Nat)(W:World)(k:W.cell? ⟨P,0,none⟩=some (.int .i64 t)):Calls Tryz.prog 162 (#[.int .i64 x] ++ #[.pointer (some ⟨P,0,none⟩)]) W fun e w'=>e=.returned (.bool (decide (t<=x)))/\∃q,w'=W.drewN q:=by
 by_cases hf:t<=x
 ·rw[decide_eq_true hf];go_enter Tryz.func162,Tryz.ntmps162;go_wp2_with fail;go_ret;exact⟨rfl,0,rfl⟩
 ·rw[decide_eq_false hf];go_enter Tryz.func162,Tryz.ntmps162;go_wp2_with fail;go_ret;exact⟨rfl,0,rfl⟩
theorem zy8(hSort:ziV)(hDel:zCb):zk7 94 seesN:=by
 intro w0 w R S F q c t item h hq h1 h6 hb;obtain⟨W0,hW0⟩:∃W,W=w.alloc (.cells #[.int .i64 t] 3):=⟨_,rfl⟩;have hb0:Below w.heap.size w W0:=by rw[hW0];exact(Below.refl _ w).alloc (Nat.le_refl _) _
 have k0:W0.cell? ⟨w.heap.size,0,none⟩=some (.int .i64 t):=by rw[hW0];simp
 have hP0:=World.block_lt_of_cell? W0 _ k0;simp only at hP0;have HBY:=zae (zis hSort (h.below hb0) hq.lenD);have HDL:Hid (∀(W:World) (v:Value),Below W0.heap.size W0 W->W.ownsRow W0.heap.size 3 1 v q.done.length ((sortI q.done).map (Value.int .i64))->Calls Tryz.prog 50 #[v,.func (.func 162) #[] #[.pointer (some ⟨w.heap.size,0,none⟩)]] W fun e w'=>∃v',e=.returned v'/\zaf w' v' (lessQ q t)/\W.grownBy w' v.ownBlock):=fun W v hW hv =>hDel (sortI q.done) (fun x=>decide (t<=x)) _ _ v _ _ W (zay q.done).length_eq (by rw[(zay q.done).length_eq];exact hq.lenD) hv zt6 fun W2 x hg=>zzb t x _ W2 (by have hb:Below W0.heap.size W0 W2:=hW.grown hg hW.size fun k hk=>(hv.lt k hk).1;exact(hb.cell (p:=⟨w.heap.size,0,none⟩) hP0).trans k0);have HLA:Hid (∀(W:World) (v:Value),Below w.heap.size w W->zaf W v (lessQ q t)->Calls Tryz.prog 163 #[.pointer (some ⟨R,0,none⟩),v,.int .i64 item] W fun e w'=>e=.returned (.int .i64 (seesN q t item))/\Below W.heap.size W w'):=fun W v hW hv =>zeA (h.below hW) hq (lessQ q t) v hv (fun x hx=>hq.six x ((zay q.done).mem_iff.1 (List.mem_filter.1 hx).1)) (by have h2:=hq.lenD;have h3:=(zay q.done).length_eq;have h4:(lessQ q t).length<=(sortI q.done).length:=List.length_filter_le ..;omega) item;obtain⟨n,hn⟩:∃n,q.done.length=n:=⟨_,rfl⟩;rw[hn]at HBY HDL;obtain⟨r,hr⟩:∃r,seesN q t item=r:=⟨_,rfl⟩;rw[hr]at HLA ⊢;have HB0:=zae hb0;clear h hq h1 h6 hb hn hr hSort hDel hb0 k0 hP0;go_enter Tryz.func94,Tryz.ntmps94
 go_upto_region 1 with(fail)
 rw[<-hW0];obtain⟨P,hP⟩:∃P,P=w.heap.size:=⟨_,rfl⟩;rw[<-hP]at HDL ⊢;have HP:=zae hP;clear hW0 hP;go_wp2_with fail;refine HBY.out.mono ?_;rintro e w1 ⟨v1,rfl,ho1,hb1⟩;have HDD:=zae (HDL.out w1 v1 hb1 ho1);have HO1:=zae ho1;have HB1:=zae hb1;obtain⟨ad1,c1,rfl,-⟩:=zad ho1;clear ho1 hb1;go_wp2_with fail;refine HDD.out.mono ?_;rintro e w2 ⟨v2,rfl,hi2,hg2⟩;have hb2:Below W0.heap.size W0 w2:=HB1.out.grown hg2 HB1.out.size fun k hk=>(HO1.out.lt k hk).1;have HB2:Hid (Below w.heap.size w w2):=HB0.out.trans (hb2.mono HB0.out.size);have HLL:=zae (HLA.out w2 v2 HB2.out hi2);obtain⟨ad2,n2,c2,rfl⟩:∃d n p,v2=.slice d n p:=by obtain⟨a,_,_,c,h,_⟩:=hi2;exact⟨a,_,c,h⟩
 clear hi2 hg2 hb2;go_wp2_with fail;refine HLL.out.mono ?_;rintro e w3 ⟨rfl,hb3⟩;have HB3:Hid (Below w.heap.size w w3):=HB2.out.trans (hb3.mono HB2.out.size);clear hb3;go_wp2_with fail;go_ret;exact⟨rfl,HB3.out⟩
theorem zox:zbB 94:=fun _ _=>by kernel_rfl
theorem zmx(l:List Op3):∀n,(dealsTo l n).length<=n:=by
 intro n
 induction n with
 | zero=>exact Nat.le_refl _
 | succ n ih =>
   show(dealsTo l n++(if zgD l ((n:Int)+1)then[(n:Int)+1]else[])).length<=n+1;rw[List.length_append];split
   ·rw[List.length_singleton];omega
   ·rw[List.length_nil];omega
theorem zu4(hSort:ziV)(hDel:zCb):znm 36 4 okN true:=by
 intro l v w hI;obtain⟨W0,hW0⟩:∃W,W=w.alloc (.cells #[.slice none 0 0,.slice none 0 0,.slice none 0 0] 77):=⟨_,rfl⟩;have hb0:Below w.heap.size w W0:=by rw[hW0];exact(Below.refl _ w).alloc (Nat.le_refl _) _
 have HB0:=zae hb0;have kz:W0.heap[w.heap.size]? = some (.cells #[.slice none 0 0,.slice none 0 0,.slice none 0 0] 77 (0,0)):=by rw[hW0];exact World.alloc_heap_new w _
 have HKZ:=zae kz;have hsz:W0.heap.size=w.heap.size+1:=by rw[hW0];simp
 have HSZ:=zae hsz;by_cases hc:(chk l).2=0
 ·rw[zxh hc];have HER:Hid (zeH 0=.nilIface):=if_pos rfl;have HDE:=zae (deals_ok l v W0 (hI.below hb0 (Nat.le_refl _)) hc);have HWH:Hid (∀W dv,Below w.heap.size w W->zaf W dv (zas l)->Calls Tryz.prog 93 #[v,.agg #[.func (.func 94) #[] #[],.func (.func 95) #[dv] #[]]] W fun e w'=>∃W0 R,e=.returned (.tuple #[.pointer (some ⟨R,0,none⟩),.nilIface])/\Below W.heap.size W W0/\zcZ W0 w' R (.func (.func 94) #[] #[]) (.func (.func 95) #[dv] #[]) (runQ seesN (zf3 (zas l)) l l.length)):=fun W dv hW hv =>zoN zox zuu (zy8 hSort hDel) (zzk (zas l) dv (fun t ht=>⟨(zbc.1 ht).1,(zbc.1 ht).2.1⟩) (Nat.le_trans (zmx l 6) (by decide))) l v W (fun W2 hW2=>hv.below hW2 (Nat.le_refl _)) (hI.below hW (Nat.le_refl _)) hc;have hop:=((zbq l).1 hc).2.1;have hl40:=zaQ hc;obtain⟨Q,hQ⟩:∃Q,runQ seesN (zf3 (zas l)) l l.length=Q:=⟨_,rfl⟩;have HOK:Hid (zaR 100 Q):=by show zaR 100 Q;rw[<-hQ];exact(zh6 seesN _ hop l.length (Nat.le_refl _)).up (by omega)
  rw[hQ]at HWH ⊢;have hsl:(sortI Q.done).length<=100:=by rw[(zay Q.done).length_eq];exact HOK.out.lenD
  have HSL:=zae hsl;have HS6:Hid (∀t∈sortI Q.done,1<=t/\t<=6):=fun t ht=>HOK.out.six t ((zay Q.done).mem_iff.1 ht);have HSO:=zae hSort;simp only;obtain⟨ad,b,off,cap,rfl,-⟩:=hI;clear hc hop hl40 hb0 kz hsz hQ hSort hDel hsl;go_enter Tryz.func36,Tryz.ntmps36
  go_upto_region 1 with(fail)
  rw[<-hW0];obtain⟨Z,hZ⟩:∃Z,Z=w.heap.size:=⟨_,rfl⟩;rw[<-hZ]at HKZ ⊢;have HZZ:Hid (Z<W0.heap.size/\w.heap.size<=Z):=by have:=HSZ.out;exact⟨by omega,by omega⟩
  clear hW0 hZ;go_wp2_with fail;refine HDE.out.mono ?_;rintro e w1 ⟨dv,rfl,hd1,hb1⟩;have HB1:Hid (Below w.heap.size w w1):=HB0.out.trans (hb1.mono HB0.out.size);have HC1:=zae hb1;have HWW:=zae (HWH.out w1 dv HB1.out hd1);obtain⟨adD,nD,cD,rfl⟩:∃d n p,dv=.slice d n p:=by obtain⟨a,_,_,c,h,_⟩:=hd1;exact⟨a,_,c,h⟩
  clear hd1 hb1 HWH;go_wp2_with fail;refine HWW.out.mono ?_;rintro e w2 ⟨W1,R,rfl,hbA,ck,hok⟩;have HB2:Hid (Below W0.heap.size W0 w2):=HC1.out.trans ((hbA.trans (hok.old.mono hbA.size)).mono HC1.out.size);have HOKC:=zae hok;have HBY:=zae (zis HSO.out hok (by have:=HOK.out.lenD;omega));obtain⟨ND,hND⟩:∃n,Q.done.length=n:=⟨_,rfl⟩;have HND:Hid ((sortI Q.done).length=ND):=by show _=_;rw[(zay Q.done).length_eq];exact hND
  rw[hND]at HBY;clear hbA hok hND;go_wp2_with fail;refine HBY.out.mono ?_;rintro e w3 ⟨v3,rfl,ho3,hb3⟩;have hi3:=zap ho3 HND.out;have HB3:Hid (Below W0.heap.size W0 w3):=HB2.out.trans (hb3.mono HB2.out.size);have HOC:=zae (zh1 (HOKC.out.below hb3) HOK.out _ _ hi3 HS6.out HSL.out);obtain⟨ad3,c3,rfl,-⟩:=zad ho3;clear ho3 hb3 hi3;go_wp2_with fail;refine HOC.out.mono ?_;rintro e w5 ⟨a1,a2,a3,rfl,hi1,hi2,hi3,hr,hb5⟩;have HBW:Hid (Below W0.heap.size W0 w5):=HB3.out.trans (hb5.mono HB3.out.size);have hz5:=(HBW.out.block Z HZZ.out.1).trans HKZ.out;have HF5:=zae (zyU hz5 HZZ.out.2 (HB0.out.trans (HBW.out.mono HB0.out.size)) (u1:=a1) (u2:=a2) (u3:=a3) hi1 hi2 hi3);have HRR:=zae hr;have z0:w5.cell? ⟨Z,0,none⟩=some (.slice none 0 0):=by rw[cell_of_row w5 Z _ _ _ _ hz5];rfl
  have z1:w5.cell? ⟨Z,1,none⟩=some (.slice none 0 0):=by rw[cell_of_row w5 Z _ _ _ _ hz5];rfl
  have z2:w5.cell? ⟨Z,2,none⟩=some (.slice none 0 0):=by rw[cell_of_row w5 Z _ _ _ _ hz5];rfl
  have y0:w5.frozen? ⟨Z,0,none⟩=false:=by simp[World.frozen?,hz5]
  have y1:w5.frozen? ⟨Z,1,none⟩=false:=by simp[World.frozen?,hz5]
  have y2:w5.frozen? ⟨Z,2,none⟩=false:=by simp[World.frozen?,hz5]
  obtain⟨d1,n1,p1,x1⟩:∃d n p,a1=.slice d n p:=by obtain⟨a,_,_,c,h,_⟩:=hi1;exact⟨a,_,c,h⟩
  obtain⟨d2,n2,p2,x2⟩:∃d n p,a2=.slice d n p:=by obtain⟨a,_,_,c,h,_⟩:=hi2;exact⟨a,_,c,h⟩
  obtain⟨d3,n3,p3,x3⟩:∃d n p,a3=.slice d n p:=by obtain⟨a,_,_,c,h,_⟩:=hi3;exact⟨a,_,c,h⟩
  subst x1 x2 x3;clear hi1 hi2 hi3 hr hb5 hz5;go_wp2_with fail;exact bodyPost_ret (v:=.tuple #[.agg #[.slice d1 n1 p1,.slice d2 n2 p2,.slice d3 n3 p3],.nilIface]) (zaZ Tryz.results36 _ _ Z 77 #[.slice d1 n1 p1,.slice d2 n2 p2,.slice d3 n3 p3] (0,0) _ .nilIface rfl rfl HF5.out.1 Tryz.underlying77 rfl zaL) rfl ⟨_,_,_,by rw[HER.out],HF5.out.2.1,HF5.out.2.2.1,HF5.out.2.2.2.1,HRR.out,HF5.out.2.2.2.2⟩
 ·rw[zfK hc];have HER:Hid (zeH (chk l).2=.iface 80 (.int .i64 (chk l).2)):=by show _=_;unfold zeH;rw[if_neg hc]
  have HDE:=zae (zsN l v W0 (hI.below hb0 (Nat.le_refl _)) hc);obtain⟨ad,b,off,cap,rfl,-⟩:=hI;obtain⟨n,hn⟩:∃n,(chk l).2=n:=⟨_,rfl⟩;simp only;rw[hn]at HER HDE ⊢;clear hc hb0 kz hsz hn hSort hDel;go_enter Tryz.func36,Tryz.ntmps36
  go_upto_region 1 with(fail)
  rw[<-hW0];obtain⟨Z,hZ⟩:∃Z,Z=w.heap.size:=⟨_,rfl⟩;rw[<-hZ]at HKZ ⊢;have HZZ:Hid (Z<W0.heap.size/\w.heap.size<=Z):=by have:=HSZ.out;exact⟨by omega,by omega⟩
  clear hW0 hZ;go_wp2_with fail;refine HDE.out.mono ?_;rintro e w5 ⟨rfl,hb1⟩;have HBW:=zae hb1;have hz5:=(HBW.out.block Z HZZ.out.1).trans HKZ.out;have HF5:=zae (zyU hz5 HZZ.out.2 (HB0.out.trans (HBW.out.mono HB0.out.size)) (u1:=.slice none 0 0) (u2:=.slice none 0 0) (u3:=.slice none 0 0) (za5 _) (zjH _) (za5 _));have z0:w5.cell? ⟨Z,0,none⟩=some (.slice none 0 0):=by rw[cell_of_row w5 Z _ _ _ _ hz5];rfl
  have z1:w5.cell? ⟨Z,1,none⟩=some (.slice none 0 0):=by rw[cell_of_row w5 Z _ _ _ _ hz5];rfl
  have z2:w5.cell? ⟨Z,2,none⟩=some (.slice none 0 0):=by rw[cell_of_row w5 Z _ _ _ _ hz5];rfl
  have y0:w5.frozen? ⟨Z,0,none⟩=false:=by simp[World.frozen?,hz5]
  have y1:w5.frozen? ⟨Z,1,none⟩=false:=by simp[World.frozen?,hz5]
  have y2:w5.frozen? ⟨Z,2,none⟩=false:=by simp[World.frozen?,hz5]
  clear hb1 hz5;go_wp2_with fail;exact bodyPost_ret (v:=.tuple #[.agg #[.slice none 0 0,.slice none 0 0,.slice none 0 0],.iface 80 (.int .i64 n)]) (zaZ Tryz.results36 _ _ Z 77 #[.slice none 0 0,.slice none 0 0,.slice none 0 0] (0,0) _ (.iface 80 (.int .i64 n)) rfl rfl HF5.out.1 Tryz.underlying77 rfl zaL) rfl ⟨_,_,_,by rw[HER.out],HF5.out.2.1,HF5.out.2.2.1,HF5.out.2.2.2.1,⟨_,_,_,rfl,Nat.le_refl _⟩,HF5.out.2.2.2.2⟩
end Go.Proofs.YthlhgiihngcobaaGreatDoor
namespace Go.Proofs.YthlhgiihngcobaaGreatDoor
open Go.RowKit Go.Sort
theorem zhQ{w W:World}{row:Option Nat}(h:Below w.heap.size w W):w.grownBy W row:=⟨h.os,h.tape,h.output,h.size,fun k hk _=>h.block k hk⟩
theorem zCn:zCb:=by
 intro ds p N C v base n w hn hl h eg hB;subst hn;obtain⟨h0,⟨hv,hz⟩ | ⟨g,cap,cur,hv,hbase,hb1,h1,h2,h3,h4⟩⟩:=h
 ·subst hv;have e0:ds=[]:=List.length_eq_zero_iff.1 hz;subst e0;clear hB h0 hz;go_enter Tryz.func50,Tryz.ntmps50;go_wp2_with (go_at_call 117;refine(AnyE.slices_IndexFunc_empty Tryz.laysSlH6_f117 none 0 _ _).mono ?_;rintro e w' ⟨rfl,rfl⟩);go_ret;exact⟨_,rfl,za5 _,⟨rfl,rfl,rfl,Nat.le_refl _,fun _ _ _=>rfl⟩⟩
 ·subst hv
  have hcon:=AnyE.slices_DeleteFunc Tryz.laysSlH10_f50 (Value.int .i64) (fun _=>rfl) p N C eg 0 Tryz.zeroValue3 g 0 cap ds.toArray w
   (fun W x hbw=>hB W x (zhQ hbw))
   (fun q os dk x _=>hB _ x (grownBy_sortedI dk))
   (holds_of_blockI hb1 (by simpa using h4)) (by simp;omega) (by simpa using h1)
  have e1:ds.toArray.toList=ds:=rfl;have e2:ds.toArray.size=ds.length:=rfl;rw[e1,e2]at hcon
  change Calls Tryz.prog 50 _ _ _ at hcon
  refine hcon.mono ?_;rintro e w' ⟨he,q,hw⟩;obtain⟨fs,hfs⟩:∃fs,(ds.filter fun x=>!p x)=fs:=⟨_,rfl⟩;have hfl:fs.length<=ds.length:=by rw[<-hfs];exact List.length_filter_le ..
  rw[hfs]at he hw ⊢;have hrow:=ownsRow_sortedI (w:=w) (n:=q) (os:=#[]) (e:=3) (ts:=fs++List.replicate (ds.length-fs.length) 0) (by simp;omega) hbase hb1 h1 h2 h3;have hgr:=grownBy_sortedI (w:=w) (g:=g) (n:=q) (os:=#[]) (fs++List.replicate (ds.length-fs.length) 0).toArray;rw[grow_empty,<-hw]at hrow hgr;refine⟨_,he,⟨some ⟨g,0,none⟩,g,0,cap,rfl,fun _=>rfl,fun h=>(by cases h),.inl (by have:=(hrow.lt g rfl).2;exact this),fun i hi=>?_⟩,hgr⟩;have:=hrow.cells (g:=g) rfl i (.int .i64 (fs.getD i 0)) (by rw[List.getElem?_map,List.getElem?_append_left hi];simp[List.getD,List.getElem?_eq_getElem hi]);rw[Addr.add_lit]at this;exact this
theorem zBs:ziV:=fun zs v base n w hn hl h=>sort_own zs v base n w hn hl h
theorem zB9:znm 36 4 okN true:=zu4 zBs zCn
end Go.Proofs.YthlhgiihngcobaaGreatDoor
