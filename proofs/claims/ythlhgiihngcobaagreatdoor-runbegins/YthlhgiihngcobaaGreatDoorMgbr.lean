/-
  PROVED HERE: package stamp's book, its methods tell, abort, read, write and come; package stamp's book, its method inOrder; package stamp keeps what it is asked (StampC); plain facts, with no word of the program.
  Conditions: none but those that each theorem's own premises say.
-/
import Derived.Test.YthlhgiihngcobaaGreatDoorMgbq
import Derived.Test.YthlhgiihngcobaaGreatDoorMgag
import Derived.Deep.Cut
import Derived.Laws.Small
import Derived.Test.YthlhgiihngcobaaGreatDoorMgao
import Derived.Deep.RegionHeld3
import Derived.Test.YthlhgiihngcobaaGreatDoorMgaq
set_option maxHeartbeats 32000000
set_option maxRecDepth 100000
namespace Go.Proofs.YthlhgiihngcobaaGreatDoor
open Go.RowKit
theorem zaH{p:Prop}(h:p):Hid p:=h
theorem zta(w:World):(zeroValue 3).run Tryz.prog w=.ok (.int .i64 0) w:=by kernel_rfl
def zyp(x:Op3):Value:=.agg #[.int .i64 x.1,.int .i64 x.2.1,.int .i64 x.2.2]
theorem zz3(w:World)(x:Op3)(t:TypeId):∀j u,(flat [x])[j]? = some u->(w.alloc (.cells #[.int .i64 x.1,.int .i64 x.2.1,.int .i64 x.2.2] t)).cell? ((⟨w.heap.size,0,none⟩:Addr).add j)=some u:=by
 intro j u hj;rw[Addr.add_lit];obtain⟨a,b,c⟩:=x;rcases j with _ | _ | _ | j
 ·simpa[flat]using hj
 ·simpa[flat]using hj
 ·simpa[flat]using hj
 ·simp[flat]at hj
theorem tell_book{w0 w:World}{R A:Nat}{leave:Bool}{s:Stm}{tv:Value}(x:Op3)(h:zar w0 w R A leave s tv)(hl:s.told.length<=47):Calls Tryz.prog 147 #[.pointer (some ⟨R,0,none⟩),zyp x] w fun e w'=>e=.returned (.tuple #[])/\∃tv',zar w0 w' R A leave { s with told:=s.told++[x] } tv':=by
 obtain⟨t,a,i⟩:=x;obtain⟨i0,hi,hz0,hs0,hy0⟩:=info_parts zmo;have HI:Hid (Tryz.prog.info? 103=some i0/\i0.zero=some (.agg #[.int .i64 0,.int .i64 0,.int .i64 0])/\i0.size=3/\i0.bytes=24):=⟨hi,hz0,hs0,hy0⟩;have HL:=zaH h;unfold zyp;clear hi hz0 hs0 hy0;go_enter Tryz.func147,Tryz.ntmps147
 go_upto_region 1 with(fail)
 obtain⟨W,hW⟩:∃W,W=w.alloc (.cells #[.int .i64 t,.int .i64 a,.int .i64 i] 103):=⟨_,rfl⟩;rw[<-hW];have hbW:Below w.heap.size w W:=by rw[hW];exact(Below.refl _ w).alloc (Nat.le_refl _) _
 have p0:W.cell? ⟨w.heap.size,0,none⟩=some (.int .i64 t):=by rw[hW];simp
 have p1:W.cell? ⟨w.heap.size,1,none⟩=some (.int .i64 a):=by rw[hW];simp
 have p2:W.cell? ⟨w.heap.size,2,none⟩=some (.int .i64 i):=by rw[hW];simp
 obtain⟨P,hP⟩:∃P,P=w.heap.size:=⟨_,rfl⟩;rw[<-hP]at p0 p1 p2 ⊢;have hLW:=h.later hbW;have HLW:=zaH hLW;obtain⟨ad5,c5,e5,-⟩:=zad hLW.told;obtain⟨n5,hn5⟩:∃n,s.told.length=n:=⟨_,rfl⟩;rw[hn5]at e5 hl;have c2:=hLW.c15;rw[e5]at c2;have hRW:=hLW.lt;have HSZ:Hid (w0.heap.size<=W.heap.size):=hLW.old.size;have HV:Hid (W.ownsRow w0.heap.size 103 3 (.slice ad5 n5 c5) n5 (flat s.told)):=by show World.ownsRow _ _ _ _ _ _ _;have:=hLW.told;rw[e5,hn5]at this;exact this
 have HPT:Hid (∀v2 w2 (ob:Obj),w2.ownsRow w0.heap.size 103 3 v2 (n5+1) (flat s.told++flat [(t,a,i)])->(W.drew.alloc ob).grownBy w2 (Value.slice ad5 n5 c5).ownBlock->(∀k,v2.ownBlock=some k->(Value.slice ad5 n5 c5).ownBlock=some k\/(W.drew.alloc ob).heap.size<=k)->w2.cell? ⟨R,15,none⟩=some (.slice ad5 n5 c5)/\w2.frozen? ⟨R,15,none⟩=false/\zar w0 (w2.setCell ⟨R,15,none⟩ v2) R A leave { s with told:=s.told++[(t,a,i)] } v2):=fun v2 w2 ob h1 h2 h3=>HLW.out.tellD e5 hn5 h1 h2 h3;have hc2:∀ob:Obj,(W.alloc ob).cell? ⟨R,15,none⟩=some (.slice ad5 n5 c5):=fun ob=>by rw[World.cell?_alloc_lt _ _ ⟨R,15,none⟩ hRW];exact c2
 have hPW:P<W.heap.size:=World.block_lt_of_cell? W _ p0;clear hW hbW hP hLW e5 hn5 h
 go_region_law (refine zaB rfl (.tmp 8) (.tmp 10) 28 rfl w0.heap.size 103 i0 (.agg #[.int .i64 0,.int .i64 0,.int .i64 0]) 3 24 Tryz.underlying28 HI.out.1 HI.out.2.1 HI.out.2.2.1 HI.out.2.2.2 rfl (by decide) (.slice ad5 n5 c5) n5 (flat s.told) (by simp[Act.eval]) (HV.out.alloc _) ⟨W.heap.size,0,none⟩ 1 1 (flat [(t,a,i)]) (by simp[Act.eval]) rfl (zz3 W (t,a,i) _) (zba _) (by unfold maxLen;omega) (by omega) (by have:=HSZ.out;simp;omega) ?_;intro v2 w2 hown2 hgr2 hap2;obtain⟨g0,g1,g2⟩:=HPT.out v2 w2 _ hown2 hgr2 hap2;clear hap2 hgr2;obtain⟨ad6,c6,rfl,-⟩:=zad hown2;have HK2:=zaH g2;clear g2 hown2)
 all_goals
  go_wp2_with fail;go_end0;exact⟨rfl,_,HK2.out⟩
theorem zjg{w0 w:World}{R A:Nat}{leave:Bool}{s:Stm}{tv:Value}(t:Int)(h:zar w0 w R A leave s tv)(hf:zp2 s)(ho:s.out t=false)(h1:1<=t)(h6:t<=6)(hl:s.told.length<=47):Calls Tryz.prog 195 #[.pointer (some ⟨R,0,none⟩),.int .i64 t] w fun e w'=>e=.returned (.tuple #[])/\∃tv',zar w0 w' R A leave (zg3 s t) tv':=by
 have hn:t ∉ s.vict:=by have:=hf.1 t;rw[ho]at this;exact of_decide_eq_false this.symm
 have hno:(zbt s.vict t).isSome=false:=by rw[zb8,decide_eq_false hn]
 have c3:=h.c16;have HL:=zaH h;have HM:=zaH h.outs;have HNO:=zaH hno;have HSN:Hid (∀y,zbt (s.vict++[t]) y=setF (zbt s.vict) t (some (.int .i64 (s.vict.length:Int))) y):=fun y=>ziY hn y;obtain⟨m,hm⟩:∃m,s.vict.length=m:=⟨_,rfl⟩;have HMM:=zaH hm;rw[hm]at HM HSN;have HTL:=zaH hl;clear h hf ho hn hno hm hl;go_enter Tryz.func195,Tryz.ntmps195;go_wp2_with (first | (at_len;refine zoK _ rfl (.tmp 8) 148 rfl 3 Tryz.underlying148 A m (zbt s.vict) rfl HM.out ?_) | (at_mapUpdate;refine zo5 _ rfl (.tmp 13) (.tmp 14) (.tmp 15) 148 rfl 3 Tryz.underlying148 A m (zbt s.vict) rfl HM.out t (.int .i64 (m:Int)) rfl rfl h1 h6 ?_;intro w2 hm2 ht2));have HST:Hid (zar w0 w2 R A leave { s with vict:=s.vict++[t],out:=setF s.out t true } tv):=by refine HL.out.setOuts ?_ ht2;rw[HNO.out]at hm2;have:=hm2.congr HSN.out;rw[List.length_append,HMM.out];exact this
 clear hm2 ht2;refine(tell_book (t,4,0) HST.out HTL.out).mono ?_;rintro e w3 ⟨rfl,tv3,h3⟩;have H3:=zaH h3;clear h3;go_wp2_with fail;go_end0;exact⟨rfl,tv3,H3.out⟩
structure ze8(w0 w:World)(R A:Nat)(leave:Bool)(s:Stm)(tv:Value)(P:Nat)(t a x:Int):Prop where
 bk:zar w0 w R A leave s tv
 p0:w.cell? ⟨P,0,none⟩=some (.int .i64 t)
 p1:w.cell? ⟨P,1,none⟩=some (.int .i64 a)
 p2:w.cell? ⟨P,2,none⟩=some (.int .i64 x)
 ne:P≠R
theorem zar.box{w0 w:World}{R A:Nat}{leave:Bool}{s:Stm}{tv:Value}(h:zar w0 w R A leave s tv)(t a x:Int)(T:TypeId):ze8 w0 (w.alloc (.cells #[.int .i64 t,.int .i64 a,.int .i64 x] T)) R A leave s tv w.heap.size t a x :=⟨h.later ((Below.refl _ w).alloc (Nat.le_refl _) _),by simp,by simp,by simp,by have:=h.lt;omega⟩
theorem ze8.drewN{w0 w:World}{R A P:Nat}{leave:Bool}{s:Stm}{tv:Value}{t a x:Int}(h:ze8 w0 w R A leave s tv P t a x)(n:Nat):ze8 w0 (w.drewN n) R A leave s tv P t a x :=⟨h.bk.later (below_drewN (Below.refl _ _) _),h.p0,h.p1,h.p2,h.ne⟩
section
variable {w0 w:World} {R A P:Nat} {leave:Bool} {s:Stm} {tv:Value} {t a x:Int}
theorem ze8.drew(h:ze8 w0 w R A leave s tv P t a x):ze8 w0 w.drew R A leave s tv P t a x :=⟨h.bk.later (Below.refl _ w).drew,h.p0,h.p1,h.p2,h.ne⟩
theorem ze8.lie(h:ze8 w0 w R A leave s tv P t a x)(q k:Nat)(u:Value):(w.setCell ⟨R,q,none⟩ u).cell? ⟨P,k,none⟩=w.cell? ⟨P,k,none⟩:=World.cell?_setCell_other _ _ _ _ (by intro he;injection he with he1 _ _;exact h.ne he1.symm)
theorem ze8.setRd(h:ze8 w0 w R A leave s tv P t a x){j:Nat}(hj:j<7)(y:Int):ze8 w0 (w.setCell ⟨R,1+j*2,none⟩ (.int .i64 y)) R A leave { s with rd:=setF s.rd (j:Int) y } tv P t a x :=⟨h.bk.setRd hj y,by rw[h.lie];exact h.p0,by rw[h.lie];exact h.p1,by rw[h.lie];exact h.p2,h.ne⟩
theorem ze8.setWr(h:ze8 w0 w R A leave s tv P t a x){j:Nat}(hj:j<7)(y:Int):ze8 w0 (w.setCell ⟨R,1+j*2+1,none⟩ (.int .i64 y)) R A leave { s with wr:=setF s.wr (j:Int) y } tv P t a x :=⟨h.bk.setWr hj y,by rw[h.lie];exact h.p0,by rw[h.lie];exact h.p1,by rw[h.lie];exact h.p2,h.ne⟩
end
theorem ztP{w0 w:World}{R A:Nat}{leave:Bool}{s:Stm}{tv:Value}(t x:Nat)(h:zar w0 w R A leave s tv)(hf:zp2 s)(ho:s.out (t:Int)=false)(h1:1<=t)(h6:t<=6)(x1:1<=x)(x6:x<=6)(hl:s.told.length<=46):Calls Tryz.prog 145 #[.pointer (some ⟨R,0,none⟩),zyp ((t:Int),1,(x:Int))] w fun e w'=>e=.returned (.tuple #[])/\∃tv',zar w0 w' R A leave (zb3 leave s ((t:Int),1,(x:Int))) tv':=by
 have HNX0:Hid (zb3 leave s ((t:Int),1,(x:Int))=if(t:Int)<s.wr (x:Int)then zg3 s (t:Int)else { s with rd:=setF s.rd (x:Int) (zyv (s.rd (x:Int)) (t:Int)),told:=s.told++[((t:Int),1,(x:Int))] }):=by
  show _=_;unfold zb3 zAD zmT;rw[if_neg (by rw[ho];decide)];by_cases e:(t:Int)<s.wr (x:Int)
  ·simp[e]
  ·simp[e]
 have HAB:Hid (∀W tv',zar w0 W R A leave s tv'->Calls Tryz.prog 195 #[.pointer (some ⟨R,0,none⟩),.int .i64 (t:Int)] W fun e w'=>e=.returned (.tuple #[])/\∃tv',zar w0 w' R A leave (zg3 s (t:Int)) tv'):=fun W tv' hW=>zjg (t:Int) hW hf ho (by omega) (by omega) (by omega);have HTL:=zaH hl;have hx0:(0:Int)<=(x:Int):=by omega
 have hxn:¬(x:Int)<0:=by omega
 have hx7:(x:Int)<7:=by omega
 have HX:Hid (x<7):=by show _<_;omega
 have HBX:=zaH (h.box (t:Int) 1 (x:Int) 103);obtain⟨rx,hrx⟩:∃r,s.rd (x:Int)=r:=⟨_,rfl⟩;obtain⟨wx,hwx⟩:∃r,s.wr (x:Int)=r:=⟨_,rfl⟩;have HRX:=zaH hrx;have HWX:=zaH hwx;unfold zyp;clear hf ho hl h h1 h6 x1 x6 hrx hwx;go_enter Tryz.func145,Tryz.ntmps145
 go_upto_region 1 with(fail)
 obtain⟨W,hW⟩:∃W,W=w.alloc (.cells #[.int .i64 (t:Int),.int .i64 1,.int .i64 (x:Int)] 103):=⟨_,rfl⟩;obtain⟨P,hP⟩:∃P,P=w.heap.size:=⟨_,rfl⟩;rw[<-hW,<-hP]at HBX ⊢;clear hW hP;obtain⟨p0,p1,p2⟩:_/\_/\_:=⟨HBX.out.p0,HBX.out.p1,HBX.out.p2⟩;go_quiet (fail)
 replace HBX:=zaH (HBX.out.drewN nq)
 obtain⟨W2,hQ⟩:∃Z:World,Z=W.drewN nq:=⟨_,rfl⟩;rw[<-hQ]at HBX ⊢;clear hQ p0 p1 p2;obtain⟨p0,p1,p2⟩:_/\_/\_:=⟨HBX.out.p0,HBX.out.p1,HBX.out.p2⟩;have cr:W2.cell? ⟨R,1+x*2,none⟩=some (.int .i64 rx):=by rw[<-HRX.out];exact HBX.out.bk.cr HX.out
 have cw:W2.cell? ⟨R,1+x*2+1,none⟩=some (.int .i64 wx):=by rw[<-HWX.out];exact HBX.out.bk.cw HX.out
 go_wp2_with fail;go_quiet (fail)
 replace HBX:=zaH (HBX.out.drewN nq)
 obtain⟨W3,hQ⟩:∃Z:World,Z=W2.drewN nq:=⟨_,rfl⟩;rw[<-hQ]at HBX ⊢;clear hQ p0 p1 p2 cr cw;obtain⟨p0,p1,p2⟩:_/\_/\_:=⟨HBX.out.p0,HBX.out.p1,HBX.out.p2⟩;by_cases hb:(t:Int)<wx
 ·have hbd:decide ((t:Int)<wx)=true:=decide_eq_true hb;have HNX:Hid (zb3 leave s ((t:Int),1,(x:Int))=zg3 s (t:Int)):=by show _=_;rw[HNX0.out,HWX.out,if_pos hb]
  go_wp2_with fail;refine(HAB.out _ _ HBX.out.bk).mono ?_;rintro e w3 ⟨rfl,tv3,h3⟩;have H3:=zaH h3;clear h3;go_wp2_with fail;refine bodyPost_ret (results_none Tryz.results145 _ _ _) rfl ⟨rfl,tv3,?_⟩;rw[HNX.out];exact H3.out
 ·have hbd:decide ((t:Int)<wx)=false:=decide_eq_false hb;have cr:W3.cell? ⟨R,1+x*2,none⟩=some (.int .i64 rx):=by rw[<-HRX.out];exact HBX.out.bk.cr HX.out
  have fr:W3.frozen? ⟨R,1+x*2,none⟩=false:=HBX.out.bk.thaw _;obtain⟨mx,hmx⟩:∃m,zyv rx (t:Int)=m:=⟨_,rfl⟩;have hm1:(if(t:Int) > rx then(t:Int)else rx)=mx:=hmx;have hm2:(if rx<(t:Int)then(t:Int)else rx)=mx:=hmx;have hm3:max rx (t:Int)=mx:=by rw[<-hmx];unfold zyv;rw[Int.max_def];split <;> split <;> omega
  have HNX:Hid (zb3 leave s ((t:Int),1,(x:Int))={ s with rd:=setF s.rd (x:Int) mx,told:=s.told++[((t:Int),1,(x:Int))] }):=by show _=_;rw[HNX0.out,HWX.out,HRX.out,hmx,if_neg hb]
  have HNE:=zaH HBX.out.ne;clear hmx
  go_upto_region 4 with(fail)
  go_region
  all_goals
   have HB4:=zaH ((HBX.out.setRd HX.out mx).drew);obtain⟨W4,hQ⟩:∃Z:World,Z=(W3.setCell ⟨R,1+x*2,none⟩ (.int .i64 mx)).drew:=⟨_,rfl⟩;rw[<-hQ]at HB4 ⊢;clear hQ p0 p1 p2 cr fr hm1 hm2 hm3 HBX;obtain⟨p0,p1,p2⟩:_/\_/\_:=⟨HB4.out.p0,HB4.out.p1,HB4.out.p2⟩;go_wp2_with fail;refine(tell_book ((t:Int),1,(x:Int)) HB4.out.bk (by have:=HTL.out;show s.told.length<=47;omega)).mono ?_;rintro e w5 ⟨rfl,tv5,h5⟩;have H5:=zaH h5;clear h5;go_wp2_with fail;go_end0;refine⟨rfl,tv5,?_⟩;rw[HNX.out];exact H5.out
theorem zp3{w0 w:World}{R A:Nat}{leave:Bool}{s:Stm}{tv:Value}(t x:Nat)(h:zar w0 w R A leave s tv)(hf:zp2 s)(ho:s.out (t:Int)=false)(h1:1<=t)(h6:t<=6)(x1:1<=x)(x6:x<=6)(hl:s.told.length<=46):Calls Tryz.prog 146 #[.pointer (some ⟨R,0,none⟩),zyp ((t:Int),2,(x:Int))] w fun e w'=>e=.returned (.tuple #[])/\∃tv',zar w0 w' R A leave (zb3 leave s ((t:Int),2,(x:Int))) tv':=by
 have HNX0:Hid (zb3 leave s ((t:Int),2,(x:Int))=if(t:Int)<s.rd (x:Int)then zg3 s (t:Int)else if(t:Int)<s.wr (x:Int)then(if leave=true then s else zg3 s (t:Int))else { s with wr:=setF s.wr (x:Int) (t:Int),told:=s.told++[((t:Int),2,(x:Int))] }):=by
  show _=_;unfold zb3 zAD zmT;rw[if_neg (by rw[ho];decide)];by_cases e:(t:Int)<s.rd (x:Int)
  ·simp[e]
  ·by_cases e2:(t:Int)<s.wr (x:Int)
   ·cases leave <;> simp[e,e2]
   ·simp[e,e2]
 have HAB:Hid (∀W tv',zar w0 W R A leave s tv'->Calls Tryz.prog 195 #[.pointer (some ⟨R,0,none⟩),.int .i64 (t:Int)] W fun e w'=>e=.returned (.tuple #[])/\∃tv',zar w0 w' R A leave (zg3 s (t:Int)) tv'):=fun W tv' hW=>zjg (t:Int) hW hf ho (by omega) (by omega) (by omega);have HTL:=zaH hl;have hx0:(0:Int)<=(x:Int):=by omega
 have hxn:¬(x:Int)<0:=by omega
 have hx7:(x:Int)<7:=by omega
 have HX:Hid (x<7):=by show _<_;omega
 have HBX:=zaH (h.box (t:Int) 2 (x:Int) 103);obtain⟨rx,hrx⟩:∃r,s.rd (x:Int)=r:=⟨_,rfl⟩;obtain⟨wx,hwx⟩:∃r,s.wr (x:Int)=r:=⟨_,rfl⟩;have HRX:=zaH hrx;have HWX:=zaH hwx;unfold zyp;clear hf ho hl h h1 h6 x1 x6 hrx hwx;go_enter Tryz.func146,Tryz.ntmps146
 go_upto_region 1 with(fail)
 obtain⟨W,hW⟩:∃W,W=w.alloc (.cells #[.int .i64 (t:Int),.int .i64 2,.int .i64 (x:Int)] 103):=⟨_,rfl⟩;obtain⟨P,hP⟩:∃P,P=w.heap.size:=⟨_,rfl⟩;rw[<-hW,<-hP]at HBX ⊢;clear hW hP;obtain⟨p0,p1,p2⟩:_/\_/\_:=⟨HBX.out.p0,HBX.out.p1,HBX.out.p2⟩;go_quiet (fail)
 replace HBX:=zaH (HBX.out.drewN nq)
 obtain⟨W2,hQ⟩:∃Z:World,Z=W.drewN nq:=⟨_,rfl⟩;rw[<-hQ]at HBX ⊢;clear hQ p0 p1 p2;obtain⟨p0,p1,p2⟩:_/\_/\_:=⟨HBX.out.p0,HBX.out.p1,HBX.out.p2⟩;have cr:W2.cell? ⟨R,1+x*2,none⟩=some (.int .i64 rx):=by rw[<-HRX.out];exact HBX.out.bk.cr HX.out
 go_wp2_with fail;go_quiet (fail)
 replace HBX:=zaH (HBX.out.drewN nq)
 obtain⟨W3,hQ⟩:∃Z:World,Z=W2.drewN nq:=⟨_,rfl⟩;rw[<-hQ]at HBX ⊢;clear hQ p0 p1 p2 cr;obtain⟨p0,p1,p2⟩:_/\_/\_:=⟨HBX.out.p0,HBX.out.p1,HBX.out.p2⟩;by_cases hr:(t:Int)<rx
 ·have hrd:decide ((t:Int)<rx)=true:=decide_eq_true hr;have HNX:Hid (zb3 leave s ((t:Int),2,(x:Int))=zg3 s (t:Int)):=by show _=_;rw[HNX0.out,HRX.out,if_pos hr]
  go_wp2_with fail;refine(HAB.out _ _ HBX.out.bk).mono ?_;rintro e w3 ⟨rfl,tv3,h3⟩;have H3:=zaH h3;clear h3;go_wp2_with fail;go_end0;refine⟨rfl,tv3,?_⟩;rw[HNX.out];exact H3.out
 ·have hrd:decide ((t:Int)<rx)=false:=decide_eq_false hr;have HRN:Hid (¬(t:Int)<rx):=hr;have cw:W3.cell? ⟨R,1+x*2+1,none⟩=some (.int .i64 wx):=by rw[<-HWX.out];exact HBX.out.bk.cw HX.out
  go_wp2_with fail;go_quiet (fail)
  replace HBX:=zaH (HBX.out.drewN nq)
  obtain⟨W4,hQ⟩:∃Z:World,Z=W3.drewN nq:=⟨_,rfl⟩;rw[<-hQ]at HBX ⊢;clear hQ p0 p1 p2 cw;obtain⟨p0,p1,p2⟩:_/\_/\_:=⟨HBX.out.p0,HBX.out.p1,HBX.out.p2⟩;by_cases hw:(t:Int)<wx
  ·have hwd:decide (wx<=(t:Int))=false:=decide_eq_false (by omega);have hwn:¬wx<=(t:Int):=by omega
   have c0:=HBX.out.bk.c0;cases leave with
   | true =>
     have HNX:Hid (zb3 true s ((t:Int),2,(x:Int))=s):=by show _=_;rw[HNX0.out,HRX.out,HWX.out,if_neg (show ¬(t:Int)<rx by have:=HRN.out;omega),if_pos hw,if_pos rfl]
     go_wp2_with fail;go_end0;refine⟨rfl,tv,?_⟩;rw[HNX.out];exact HBX.out.bk
   | false =>
     have HNX:Hid (zb3 false s ((t:Int),2,(x:Int))=zg3 s (t:Int)):=by show _=_;rw[HNX0.out,HRX.out,HWX.out,if_neg (show ¬(t:Int)<rx by have:=HRN.out;omega),if_pos hw,if_neg (by decide)]
     go_wp2_with fail;refine(HAB.out _ _ HBX.out.bk).mono ?_;rintro e w3 ⟨rfl,tv3,h3⟩;have H3:=zaH h3;clear h3;go_wp2_with fail;go_end0;refine⟨rfl,tv3,?_⟩;rw[HNX.out];exact H3.out
  ·have hwd:decide (wx<=(t:Int))=true:=decide_eq_true (by omega);have hwn:wx<=(t:Int):=by omega
   have HNX:Hid (zb3 leave s ((t:Int),2,(x:Int))={ s with wr:=setF s.wr (x:Int) (t:Int),told:=s.told++[((t:Int),2,(x:Int))] }):=by show _=_;rw[HNX0.out,HRX.out,HWX.out,if_neg (show ¬(t:Int)<rx by have:=HRN.out;omega),if_neg hw]
   have cw:W4.cell? ⟨R,1+x*2+1,none⟩=some (.int .i64 wx):=by rw[<-HWX.out];exact HBX.out.bk.cw HX.out
   have fr:W4.frozen? ⟨R,1+x*2+1,none⟩=false:=HBX.out.bk.thaw _
   go_upto_region 6 with(fail)
   have HB4:=zaH (HBX.out.setWr HX.out (t:Int));obtain⟨W5,hQ⟩:∃Z:World,Z=W4.setCell ⟨R,1+x*2+1,none⟩ (.int .i64 (t:Int)):=⟨_,rfl⟩;rw[<-hQ]at HB4 ⊢;clear hQ p0 p1 p2 cw fr HBX;obtain⟨p0,p1,p2⟩:_/\_/\_:=⟨HB4.out.p0,HB4.out.p1,HB4.out.p2⟩;go_wp2_with fail;refine(tell_book ((t:Int),2,(x:Int)) HB4.out.bk (by have:=HTL.out;show s.told.length<=47;omega)).mono ?_;rintro e w6 ⟨rfl,tv6,h6⟩;have H6:=zaH h6;clear h6;go_wp2_with fail;go_end0;refine⟨rfl,tv6,?_⟩;rw[HNX.out];exact H6.out
theorem zse{w0 w:World}{R A:Nat}{leave:Bool}{s:Stm}{tv:Value}(o:Op3)(h:zar w0 w R A leave s tv)(hf:zp2 s)(hop:isOpB o=true)(hl:s.told.length<=46):Calls Tryz.prog 86 #[.pointer (some ⟨R,0,none⟩),zyp o] w fun e w'=>e=.returned (.tuple #[])/\∃tv',zar w0 w' R A leave (zb3 leave s o) tv':=by
 obtain⟨t,a,i⟩:=o;obtain⟨h1,h6⟩:=za1 hop;have hkd:=isOp_kinds hop;simp only at h1 h6 hkd;have hwf:Wf t:=zaX h1 h6;have HBX:=zaH (h.box t a i 103);have HVS:Hid ((zbt s.vict t).isSome=s.out t):=by show _=_;rw[zb8,hf.1 t]
 have HVV:Hid (∃u,(zbt s.vict t).getD (.int .i64 0)=.int .i64 u):=by
  show ∃u,_;unfold zbt;cases posL s.vict t with
  | none=>exact⟨0,rfl⟩
  | some k=>exact⟨k,rfl⟩
 have HRD:Hid (s.out t=false->a=1->∀W tv',zar w0 W R A leave s tv'->Calls Tryz.prog 145 #[.pointer (some ⟨R,0,none⟩),.agg #[.int .i64 t,.int .i64 1,.int .i64 i]] W fun e w'=>e=.returned (.tuple #[])/\∃tv',zar w0 w' R A leave (zb3 leave s (t,1,i)) tv'):=fun ho ha W tv' hW=>by
  subst ha;have hi1:=zfw hop (.inl rfl);have hi6:i<=6:=by simp[isOpB,zaM]at hop;omega
  obtain⟨tn,rfl⟩:∃k:Nat,t=k:=⟨t.toNat,by omega⟩;obtain⟨xn,rfl⟩:∃k:Nat,i=k:=⟨i.toNat,by simp only at hi1;omega⟩;exact ztP tn xn hW hf ho (by omega) (by omega) (by simp only at hi1;omega) (by omega) hl
 have HWR:Hid (s.out t=false->a=2->∀W tv',zar w0 W R A leave s tv'->Calls Tryz.prog 146 #[.pointer (some ⟨R,0,none⟩),.agg #[.int .i64 t,.int .i64 2,.int .i64 i]] W fun e w'=>e=.returned (.tuple #[])/\∃tv',zar w0 w' R A leave (zb3 leave s (t,2,i)) tv'):=fun ho ha W tv' hW=>by
  subst ha;have hi1:=zfw hop (.inr rfl);have hi6:i<=6:=by simp[isOpB,zaM]at hop;omega
  obtain⟨tn,rfl⟩:∃k:Nat,t=k:=⟨t.toNat,by omega⟩;obtain⟨xn,rfl⟩:∃k:Nat,i=k:=⟨i.toNat,by simp only at hi1;omega⟩;exact zp3 tn xn hW hf ho (by omega) (by omega) (by simp only at hi1;omega) (by omega) hl
 have HTL:=zaH hl;unfold zyp;clear hf hop hl h h1 h6;go_enter Tryz.func86,Tryz.ntmps86
 go_upto_region 1 with(fail)
 obtain⟨W,hW⟩:∃W,W=w.alloc (.cells #[.int .i64 t,.int .i64 a,.int .i64 i] 103):=⟨_,rfl⟩;obtain⟨P,hP⟩:∃P,P=w.heap.size:=⟨_,rfl⟩;rw[<-hW,<-hP]at HBX ⊢;clear hW hP;obtain⟨p0,p1,p2⟩:_/\_/\_:=⟨HBX.out.p0,HBX.out.p1,HBX.out.p2⟩;have c16:=HBX.out.bk.c16;obtain⟨u,hu⟩:=HVV.out;have HU:=zaH hu;obtain⟨b,hb⟩:∃b,s.out t=b:=⟨_,rfl⟩;have HVB:Hid ((zbt s.vict t).isSome=b):=HVS.out.trans hb;clear hu;have hlk:∀n,(Instr.lookup 148 (.map (some A)) (.int .i64 t) true).run Tryz.prog (W.drewN n)=.ok (.tuple #[.int .i64 u,.bool b]) (W.drewN n):=fun n=>by have h1:=(HBX.out.drewN n).bk.outs.look true Tryz.underlying148 (zta _) hwf;rw[HU.out,HVB.out]at h1;exact h1
 go_quiet (fail);clear hlk c16 p0 p1 p2
 replace HBX:=zaH (HBX.out.drewN nq)
 obtain⟨W2,hQ⟩:∃Z:World,Z=W.drewN nq:=⟨_,rfl⟩;rw[<-hQ]at HBX ⊢;clear hQ;obtain⟨p0,p1,p2⟩:_/\_/\_:=⟨HBX.out.p0,HBX.out.p1,HBX.out.p2⟩;cases b with
 | true =>
   have HNX:Hid (zb3 leave s (t,a,i)=s):=by show _=_;unfold zb3;rw[if_pos hb]
   clear hb;go_wp2_with fail;refine bodyPost_ret (results_none Tryz.results86 _ _ _) rfl ⟨rfl,tv,?_⟩;rw[HNX.out];exact HBX.out.bk
 | false =>
   have HO:=zaH hb;clear hb;rcases hkd with rfl | rfl | ⟨h3,hi0⟩
   ·go_wp2_with fail;refine(HRD.out HO.out (by first | rfl | trivial) _ _ HBX.out.bk).mono ?_;rintro e w3 ⟨rfl,tv3,h3⟩;have H3:=zaH h3;clear h3;go_wp2_with fail;go_end0;exact⟨rfl,tv3,H3.out⟩
   ·go_wp2_with fail;refine(HWR.out HO.out (by first | rfl | trivial) _ _ HBX.out.bk).mono ?_;rintro e w3 ⟨rfl,tv3,h3⟩;have H3:=zaH h3;clear h3;go_wp2_with fail;go_end0;exact⟨rfl,tv3,H3.out⟩
   ·have ha1:¬a=1:=by omega
    have ha2:¬a=2:=by omega
    have ha1b:(a == 1)=false:=by simpa using ha1
    have ha2b:(a == 2)=false:=by simpa using ha2
    have HNX:Hid (zb3 leave s (t,a,i)={ s with told:=s.told++[(t,a,i)] }):=by show _=_;unfold zb3 zAD;simp only[if_neg ha1,if_neg ha2];rw[if_neg (by rw[HO.out];decide),if_neg (by decide)]
    clear h3 hi0;go_wp2_with fail;refine(tell_book (t,a,i) HBX.out.bk (by have:=HTL.out;omega)).mono ?_;rintro e w3 ⟨rfl,tv3,h3⟩;have H3:=zaH h3;clear h3;go_wp2_with fail;go_end0;refine⟨rfl,tv3,?_⟩;rw[HNX.out];exact H3.out
end Go.Proofs.YthlhgiihngcobaaGreatDoor
namespace Go.Proofs.YthlhgiihngcobaaGreatDoor
open Go.RowKit
open Go.Maps (Keyed)
theorem zl7{w0 w:World}{R A:Nat}{leave:Bool}{s:Stm}{tv:Value}(h:zar w0 w R A leave s tv)(hf:zp2 s)(hl:s.vict.length<=6):Calls Tryz.prog 87 #[.pointer (some ⟨R,0,none⟩)] w fun e w'=>∃ad n q,e=.returned (.slice ad n q)/\zaf w' (.slice ad n q) s.vict/\Below w.heap.size w w':=by
 obtain⟨vc,hvc⟩:∃vc,s.vict=vc:=⟨_,rfl⟩;have HN:Hid (vc.Pairwise (·≠·)):=by show List.Pairwise _ _;rw[<-hvc];exact hf.2.1
 have c3:=h.c16;have HL:=zaH h;have HM:Hid (∀W,Below w.heap.size w W->zax W A (zbt vc) vc.length):=fun W hW=>by have:=(h.later hW).outs;rw[hvc]at this;exact this
 have hRl:=h.lt;rw[hvc]at hl ⊢;obtain⟨i0,hi,hz0,hs0,hy0⟩:=info_parts zbK;have HI:Hid (Tryz.prog.info? 3=some i0/\i0.zero=some (.int .i64 0)/\i0.size=1/\i0.bytes=8):=⟨hi,hz0,hs0,hy0⟩;obtain⟨m,hm⟩:∃m,vc.length=m:=⟨_,rfl⟩;have HMM:=zaH hm;rw[hm]at hl;have hm0:(0:Int)<=(m:Int):=by omega
 clear hi hz0 hs0 hy0 hf hvc h hm;go_enter Tryz.func87,Tryz.ntmps87
 go_upto_region 2 with(first | (at_len;refine zoK _ rfl (.tmp 9) 148 rfl 3 Tryz.underlying148 A m (zbt vc) rfl (HMM.out ▸HM.out _ (Below.refl _ _)) ?_) | (at_make;refine wpList_make_full _ rfl (.tmp 10) (.tmp 10) 24 rfl w.heap.size 3 i0 (.int .i64 0) 1 Tryz.underlying24 HI.out.1 HI.out.2.1 HI.out.2.2.1 .i64 .i64 (m:Int) (m:Int) m rfl rfl rfl rfl (by rw[HI.out.2.2.2];omega) (by unfold maxLen;omega) (Nat.le_refl _) ?_;intro w1 hown1 hgr1))
 have HNU:Hid (zcI w1 w.heap.size m fun _=>0):=zi6 hown1 (zmy m);have HB1:Hid (Below w.heap.size w w1):=⟨hgr1.os,hgr1.tape,hgr1.output,hgr1.size,fun k hk=>hgr1.block k hk (by simp)⟩;have hS1:w.heap.size<w1.heap.size:=(hown1.lt w.heap.size rfl).2;obtain⟨D,hD1,hD2,hD3,hD4,-⟩:=HM.out w1 HB1.out;have HD1:=zaH hD1;have HD3:=zaH (And.intro hD3 hD4);obtain⟨S,hS⟩:∃S,S=w.heap.size:=⟨_,rfl⟩;have k3:w1.cell? ⟨R,16,none⟩=some (.map (some A)):=(HL.out.later HB1.out).c16;have hAS:A≠S:=by have:=(HM.out w (Below.refl _ _)).lt;omega
 have hRS:R≠S:=by omega
 have HSE:=zaH hS;rw[<-hS]at HNU hS1 ⊢;clear hown1 hgr1 hD1 hD3 hD4 hS c3;go_wp2_with (at_range;refine wpList_range_own _ rfl (.tmp 15) 148 rfl 3 3 KI Tryz.underlying148 zaO A vc.length D rfl HD1.out ?_;intro w2 hrg2 hg2 hs2);have ht2:zac (fun _=>False) w1 w2:=(zac.refl _ w1).grown hg2 fun k hk=>by cases hk
 have HL2:Hid (zwk vc (Maps.has D) fun _=>0):=fun j hj hl=>by
  exfalso;have hmem:vc.getD j 0∈vc:=by simp[List.getD,hj]
  have hsm:(zbt vc (vc.getD j 0)).isSome=true:=by rw[zb8,decide_eq_true hmem]
  have hr:=HM.out w (Below.refl _ _);obtain⟨_,_,_,_,_,h5⟩:=hr;obtain⟨a1,a6⟩:=h5 _ hsm;rw[HD3.out.1 _ (zaX a1 a6),hsm]at hl;cases hl
 have HST:Hid (∃(left:Lit->Bool) (cnt:Nat) (vs:Nat->Int),w2.ranges Tryz.prog 3 zaO A w1.heap.size vc.length D left cnt/\zcI w2 S m vs/\zwk vc left vs/\Below w.heap.size w w2/\S<w2.heap.size) :=⟨_,_,_,hrg2,HNU.out.turn ht2 hS1 (fun hf=>hf),HL2.out,HB1.out.trans ((ht2.below (Nat.le_refl _) fun _ _ hf=>hf).mono HB1.out.size),Nat.lt_of_lt_of_le hS1 ht2.size⟩;have hSI:S≠w1.heap.size:=by omega
 have hSI2:S<w1.heap.size:=by omega
 obtain⟨I,hI⟩:∃I,I=w1.heap.size:=⟨_,rfl⟩;rw[<-hI]at HST hSI hSI2 ⊢;clear hrg2 hg2 hs2 ht2 HL2 k3 hI
 go_frame
 go_loopw [4] (fun _ wr=>∃(left:Lit->Bool) (cnt:Nat) (vs:Nat->Int),wr.ranges Tryz.prog 3 zaO A I vc.length D left cnt/\zcI wr S m vs/\zwk vc left vs/\Below w.heap.size w wr/\S<wr.heap.size) (fun _ wr=>wr.rangeLeft A I)
 case atStart=>exact HST.out
 case round =>
  obtain⟨left,cnt,vs,hrg,hnu,hlaid,hbel,hSr⟩:=hrel;have HRG:=zaH hrg;have HNR:=zaH hnu;have HLA:=zaH hlaid;have HBE:=zaH hbel;clear hrg hnu hlaid hbel HST;go_wp2_with (at_next;refine zgQ _ rfl (.tmp 16) rfl A I vc.length D left cnt vc rfl HRG.out HD3.out.1 HD3.out.2 ?_ ?_)
  ·intro hc0 hl0;have HEN:Hid (zaf wr (.slice (some ⟨S,0,none⟩) m m) vc):=by have h1:=HNR.out;rw[<-HMM.out]at h1 ⊢;exact h1.ints hSr fun j hj=>HLA.out j hj (hl0 _)
   clear hc0 hl0;go_wp2_with fail;go_ret;exact⟨_,_,_,rfl,HEN.out,HBE.out⟩
  ·intro x k w3 cnt3 hxk hrg3 hlt3 hg3 hs3 hen3;have hkm:k<m:=by rw[<-HMM.out];exact(List.getElem?_eq_some_iff.1 hxk).1
   have ht3:zac (fun j=>j=I) wr w3:=(zac.refl _ wr).grown hg3 fun j hj=>.inl (Option.some.inj hj).symm;have hn3:=HNR.out.turn ht3 hSr hSI;obtain⟨y0,y1⟩:=hn3 k hkm;have HN3:=zaH hn3;have HR3:=zaH hrg3;have HL3:=zaH (HLA.out.step HN.out hxk)
   have HB3:Hid (Below w.heap.size w w3):=by
    have h1:¬I<w.heap.size:=by have:=HSE.out;omega
    exact HBE.out.trans (ht3.below HBE.out.size fun j hj e=>h1 (e ▸hj))
   have hS3:S<w3.heap.size:=Nat.lt_of_lt_of_le hSr ht3.size;have hk1:(k:Int)<(m:Int):=by omega
   have hk0:(0:Int)<=(k:Int):=by omega
   have hkn:¬(k:Int)<0:=by omega
   have HLE:=zaH HRG.out.left_eq;clear hxk hrg3 ht3 hn3 hg3;go_wp2_with fail;go_roundw
   case rel =>have hkeep:(w3.setCell ⟨S,k,none⟩ (.int .i64 x)).ranges Tryz.prog 3 zaO A I vc.length D (fun z=>left z && !z.sameKey (Lit.int .i64 x)) cnt3:=HR3.out.kept (row:=some S) ⟨rfl,rfl,rfl,by simp,fun i hi hne=>by rw[Below.heap_setCell _ _ _ _ (fun e=>hne (by rw[e]))]⟩ (fun e=>hAS (Option.some.inj e)) (fun e=>hSI (Option.some.inj e).symm);exact⟨_,cnt3,_,hkeep,HN3.out.set hkm x,HL3.out,HB3.out.setCell (by rw[HSE.out];exact Nat.le_refl _) _,by simpa using hS3⟩
   case measure =>have hkeep:(w3.setCell ⟨S,k,none⟩ (.int .i64 x)).ranges Tryz.prog 3 zaO A I vc.length D (fun z=>left z && !z.sameKey (Lit.int .i64 x)) cnt3:=HR3.out.kept (row:=some S) ⟨rfl,rfl,rfl,by simp,fun i hi hne=>by rw[Below.heap_setCell _ _ _ _ (fun e=>hne (by rw[e]))]⟩ (fun e=>hAS (Option.some.inj e)) (fun e=>hSI (Option.some.inj e).symm);rw[hkeep.left_eq,HLE.out];exact hlt3
end Go.Proofs.YthlhgiihngcobaaGreatDoor
namespace Go.Proofs.YthlhgiihngcobaaGreatDoor
open Go.RowKit
theorem newBook_run(leave:Bool)(w0 w:World)(hb:Below w0.heap.size w0 w):Calls Tryz.prog 85 #[.bool leave] w fun e w'=>∃R A,e=.returned (.pointer (some ⟨R,0,none⟩))/\zar w0 w' R A leave zAK (.slice none 0 0):=by have hmm:=@run_makeMap Tryz.prog;have HM:=zaH (ztI w0 w hb leave);rw[znb]at HM;clear hb;go_enter Tryz.func85,Tryz.ntmps85;go_wp2_with fail;go_ret;exact⟨_,_,rfl,HM.out⟩
theorem zof(leave:Bool){l:List Op3}{k:Nat}(hk:k<l.length):zbf leave (l.take (k+1))=zb3 leave (zbf leave (l.take k)) (opAt l k):=by
 unfold zbf;rw[List.take_succ_eq_append_getElem hk,List.foldl_append];have:l[k]=opAt l k:=by simp[opAt,List.getD,List.getElem?_eq_getElem hk]
 rw[this];rfl
theorem zst:∀ {l:List Int},l.Pairwise (·≠·)->(∀v∈l,1<=v/\v<=6)->l.length<=6:=by
 intro l hp hr;have h:=zoG (l.map (Lit.int .i64)) [.int .i64 1,.int .i64 2,.int .i64 3,.int .i64 4,.int .i64 5,.int .i64 6] (List.pairwise_map.2 (hp.imp fun hne e=>hne (by injection e))) fun k hk=>by obtain⟨x,hx,rfl⟩:=List.mem_map.1 hk;obtain⟨h1,h6⟩:=hr x hx;rcases six h1 h6 with rfl | rfl | rfl | rfl | rfl | rfl <;> simp
 simpa using h
theorem zBF:zA4:=by
 intro l v leave w hI;by_cases hc:(chk l).2=0
 ·have HCK:=zaH (check_ok l v w hI hc);have HU:Hid (zdc leave l=(((zbf leave l).told,(zbf leave l).vict),0)):=zib hc;obtain⟨hl40,hop,hcalm⟩:=(zbq l).1 hc;have HOP:Hid (∀o∈l,isOpB o=true):=hop;have HSK:Hid (∀k,k<=l.length->(zbf leave (l.take k)).told.length<=40/\(zbf leave (l.take k)).vict.length<=6/\zp2 (zbf leave (l.take k))):=fun k hk=>by have h1:=(zpB leave l hop hcalm k hk).long;have h2:=zzG leave l hop k hk;rw[List.length_take]at h1;exact⟨by omega,zst h2.2.1 h2.2.2,h2⟩
  obtain⟨ad,b,off,cap,rfl,ha,-,hbB,hops⟩:=hI
  have HE:Hid (∀W,Below w.heap.size w W->∀k,k<l.length->ad=some ⟨b,off,none⟩/\b<w.heap.size/\W.cell? ⟨b,off+k*3,none⟩=some (.int .i64 (opAt l k).1)/\W.cell? ⟨b,off+k*3+1,none⟩=some (.int .i64 (opAt l k).2.1)/\W.cell? ⟨b,off+k*3+2,none⟩=some (.int .i64 (opAt l k).2.2)):=fun W hW k hk=>by
   refine⟨ha (by omega),?_,(hops.below hW hbB) k hk⟩;rcases hbB with h | h
   ·exact h
   ·subst h;simp at hk
  clear hc hop hcalm ha hbB hops;go_enter Tryz.func31,Tryz.ntmps31;go_wp2_with fail;refine HCK.out.mono ?_;rintro e w1 ⟨rfl,hb1⟩;have HB1:=zaH hb1;clear hb1;go_wp2_with fail;refine(newBook_run leave w w1 HB1.out).mono ?_;rintro e w2 ⟨R,A,rfl,ho2⟩;have HO2:=zaH ho2;clear ho2;go_wp2_with fail
  go_loopw [24] (fun v24 wr=>∃(k:Nat) (tv:Value),k<=l.length/\v24=.int .i64 k/\zar w wr R A leave (zbf leave (l.take k)) tv) (fun v24 _=>l.length-(intOf v24).toNat)
  case atStart=>exact⟨0,_,Nat.zero_le _,rfl,HO2.out⟩
  case round =>
   obtain⟨k,tk,hk,rfl,hok⟩:=hrel;have hsk:=HSK.out k hk;obtain⟨rk,hrk⟩:∃rk,zbf leave (l.take k)=rk:=⟨_,rfl⟩;rw[hrk]at hok hsk;have HOK:=zaH hok;have HRK:=zaH hrk;have HGK:=zaH hsk;clear hok hsk hrk HO2;by_cases hlt:k<l.length
   ·have hlt':(k:Int)<(l.length:Int):=by omega
    obtain⟨rfl,hbw,e0,e1,e2⟩:=HE.out wr HOK.out.old k hlt;obtain⟨⟨t,a,i⟩,ho⟩:∃o:Op3,opAt l k=o:=⟨_,rfl⟩;have hiso:isOpB (t,a,i)=true:=by rw[<-ho];exact HOP.out _ (zal hlt)
    have HNX:Hid (zbf leave (l.take (k+1))=zb3 leave rk (t,a,i)):=by show _=_;rw[zof leave hlt,HRK.out,ho]
    rw[ho]at e0 e1 e2;simp only at e0 e1 e2;have hbR:b<wr.heap.size:=Nat.lt_of_lt_of_le hbw HOK.out.old.size;have HCO:Hid (∀W,Below wr.heap.size wr W->Calls Tryz.prog 86 #[.pointer (some ⟨R,0,none⟩),.agg #[.int .i64 t,.int .i64 a,.int .i64 i]] W fun e w'=>e=.returned (.tuple #[])/\∃tv',zar w w' R A leave (zb3 leave rk (t,a,i)) tv'):=fun W hW =>zse (t,a,i) (HOK.out.later hW) HGK.out.2.2 hiso (by have:=HGK.out.1;omega);clear ho hiso;go_wp2_with fail;refine(HCO.out _ ((Below.refl _ wr).alloc (Nat.le_refl _) _)).mono ?_;rintro e w3 ⟨rfl,c3,ho3⟩;have HO3:=zaH ho3;clear ho3 e0 e1 e2;go_wp2_with fail;go_roundw
    case rel=>exact⟨k+1,c3,by omega,by go_num,by rw[HNX.out];exact HO3.out⟩
    case measure=>simp[intOf];omega
   ·have hlt':¬(k:Int)<(l.length:Int):=by omega
    obtain rfl:k=l.length:=by omega
    have HEND:Hid (zbf leave l=rk):=by show _=_;rw[<-HRK.out,List.take_length]
    have k2:=HOK.out.c15;obtain⟨ad5,c5,e5,-⟩:=zad HOK.out.told;rw[e5]at k2;have hRr:=HOK.out.lt
    have HIN:Hid (Calls Tryz.prog 87 #[.pointer (some ⟨R,0,none⟩)] wr.drew fun e w'=>∃ad n q,e=.returned (.slice ad n q)/\w'.cell? ⟨R,15,none⟩=some (.slice ad5 rk.told.length c5)/\zaf w' (.slice ad n q) rk.vict/\zai w' (.slice ad5 rk.told.length c5) rk.told/\Below w.heap.size w w'):=by
     have h1:=HOK.out.later (Below.refl _ wr).drew;refine(zl7 h1 HGK.out.2.2 HGK.out.2.1).mono ?_;rintro e w' ⟨ad,n,q,rfl,hi,hb⟩;have h2:=h1.later hb;refine⟨ad,n,q,rfl,?_,hi,?_,h2.old⟩
     ·rw[<-e5];exact h2.c15
     ·rw[<-e5];exact zbH h2.told rfl
    have HK2:Hid (wr.drew.cell? ⟨R,15,none⟩=some (.slice ad5 rk.told.length c5)):=k2;clear e5;go_wp2_with fail
    go_region_held3 (fun w'=>w'.cell? ⟨R,15,none⟩=some (.slice ad5 rk.told.length c5)) (first | exact g2 | exact HK2.out) (first | (go_at_call 87;refine HIN.out.mono ?_;rintro e w3 ⟨ad3,n3,q3,rfl,g2,hi3,hp3,hb3⟩))
    all_goals
     go_wp2_with fail;go_ret3;rw[HU.out,HEND.out];exact⟨_,_,rfl,hp3,hi3,hb3⟩
 ·have HCK:=zaH (check_bad l v w hI hc);have HU:Hid (zdc leave l=(([],[]),(chk l).2)):=zr1 hc;have HER:=zaH (zir hc);obtain⟨ad,b,off,cap,rfl,-⟩:=hI;clear hc;go_enter Tryz.func31,Tryz.ntmps31;go_wp2_with fail;refine HCK.out.mono ?_;rintro e w1 ⟨rfl,hb1⟩;go_wp2_with fail;go_ret3;rw[HU.out];exact⟨_,_,by rw[HER.out];rfl,zef _,za5 _,hb1⟩
end Go.Proofs.YthlhgiihngcobaaGreatDoor
namespace Go.Proofs.YthlhgiihngcobaaGreatDoor
structure Crs where
 done:List Int
 began:Int->Option Nat
 read:Int->List Op3
 wrote:Int->List Int
def zBH:Crs:=⟨[],fun _=>none,fun _=>[],fun _=>[]⟩
def lastQ(wrote:Int->List Int)(done:List Int)(item:Int):Int:=done.foldl (fun f t=>if inB (wrote t) item=true then t else f) 0
theorem zjw(wrote:Int->List Int)(done:List Int)(t item:Int):lastQ wrote (done++[t]) item=if inB (wrote t) item=true then t else lastQ wrote done item:=by unfold lastQ;rw[List.foldl_append];rfl
def begQ(q:Crs)(t:Int):Crs:=if(q.began t).isSome=true then q else { q with began:=setF q.began t (some q.done.length) }
theorem zbI(q:Crs)(t:Int):(begQ q t).done=q.done:=by unfold begQ;split <;> rfl
theorem zht(q:Crs)(t:Int):(begQ q t).read=q.read:=by unfold begQ;split <;> rfl
theorem zb7(q:Crs)(t:Int):(begQ q t).wrote=q.wrote:=by unfold begQ;split <;> rfl
def zvV(seesF:Crs->Int->Int->Int)(q:Crs)(t item:Int):Int:=if inB (q.wrote t) item=true then t else seesF q t item
def readQ(q:Crs)(x:Op3):Crs:={ q with read:=setF q.read x.1 (q.read x.1++[x]) }
def zjK(q:Crs)(t item:Int):Crs:={ q with wrote:=setF q.wrote t (q.wrote t++[item]) }
def doneQ(q:Crs)(t:Int):Crs:={ q with done:=q.done++[t] }
def stepQ(seesF:Crs->Int->Int->Int)(fallF:Crs->Int->Bool)(q:Crs)(o:Op3):Crs :=
 if o.2.1=1 then readQ (begQ q o.1) (o.1,o.2.2,zvV seesF (begQ q o.1) o.1 o.2.2)
 else if o.2.1=2 then zjK (begQ q o.1) o.1 o.2.2
 else if o.2.1=3 then(if fallF (begQ q o.1) o.1=true then begQ q o.1 else doneQ (begQ q o.1) o.1)
 else begQ q o.1
def runQ(seesF:Crs->Int->Int->Int)(fallF:Crs->Int->Bool)(l:List Op3):Nat->Crs
 | 0=>zBH
 | k+1=>stepQ seesF fallF (runQ seesF fallF l k) (opAt l k)
structure zaR(m:Nat)(q:Crs):Prop where
 lenD:q.done.length<=m
 lenR:∀t,(q.read t).length<=m
 lenW:∀t,(q.wrote t).length<=m
 six:∀t∈q.done,1<=t/\t<=6
 cnt:∀t n,q.began t=some n->n<=q.done.length
 begs:∀t∈q.done,(q.began t).isSome=true
theorem crsOk0:zaR 0 zBH:=⟨Nat.le_refl _,fun _=>Nat.le_refl _,fun _=>Nat.le_refl _,fun _ h=>(by cases h),fun _ _ h=>(by cases h),fun _ h=>(by cases h)⟩
theorem zlm(q:Crs)(t:Int):((begQ q t).began t).isSome=true:=by
 unfold begQ;split
 ·assumption
 ·show(setF q.began t (some q.done.length) t).isSome=true;rw[setF_same];rfl
section
variable {m:Nat} {q:Crs}
theorem zaR.more(h:zaR m q):zaR (m+1) q:=⟨by have:=h.lenD;omega,fun t=>by have:=h.lenR t;omega,fun t=>by have:=h.lenW t;omega,h.six,h.cnt,h.begs⟩
theorem zaR.beg(h:zaR m q)(t:Int):zaR m (begQ q t):=by
 refine⟨by rw[zbI];exact h.lenD,by rw[zht];exact h.lenR,by rw[zb7];exact h.lenW,by rw[zbI];exact h.six,fun u n hu=>?_,fun u hu=>?_⟩
 ·rw[zbI];unfold begQ at hu;split at hu
  ·exact h.cnt u n hu
  ·have hu':setF q.began t (some q.done.length) u=some n:=hu;by_cases e:u=t
   ·subst e;rw[setF_same]at hu';cases hu';exact Nat.le_refl _
   ·rw[zaa _ _ e]at hu';exact h.cnt u n hu'
 ·rw[zbI]at hu;by_cases e:u=t
  ·subst e;exact zlm q u
  ·unfold begQ;split
   ·exact h.begs u hu
   ·show(setF q.began t (some q.done.length) u).isSome=true;rw[zaa _ _ e];exact h.begs u hu
theorem zaR.read(h:zaR m q)(x:Op3):zaR (m+1) (readQ q x):=by
 refine⟨by have:=h.lenD;show q.done.length<=_;omega,fun t=>?_,fun t=>by have:=h.lenW t;show(q.wrote t).length<=_;omega,h.six,h.cnt,h.begs⟩;show(setF q.read x.1 (q.read x.1++[x]) t).length<=_;have h1:=h.lenR t;by_cases e:t=x.1
 ·subst e;rw[setF_same,List.length_append,List.length_singleton];omega
 ·rw[zaa _ _ e];omega
theorem zaR.write(h:zaR m q)(t item:Int):zaR (m+1) (zjK q t item):=by
 refine⟨by have:=h.lenD;show q.done.length<=_;omega,fun t=>by have:=h.lenR t;show(q.read t).length<=_;omega,fun u=>?_,h.six,h.cnt,h.begs⟩;show(setF q.wrote t (q.wrote t++[item]) u).length<=_;have h1:=h.lenW u;by_cases e:u=t
 ·subst e;rw[setF_same,List.length_append,List.length_singleton];omega
 ·rw[zaa _ _ e];omega
theorem zaR.end_(h:zaR m q){t:Int}(h1:1<=t)(h6:t<=6)(hbt:(q.began t).isSome=true):zaR (m+1) (doneQ q t):=by
 refine⟨by have:=h.lenD;show(q.done++[t]).length<=_;rw[List.length_append,List.length_singleton];omega,fun t=>by have:=h.lenR t;show(q.read t).length<=_;omega,fun t=>by have:=h.lenW t;show(q.wrote t).length<=_;omega,fun u hu=>?_,fun u n hu=>?_,fun u hu=>?_⟩
 ·rcases List.mem_append.1 hu with hu | hu
  ·exact h.six u hu
  ·rw[List.mem_singleton.1 hu];exact⟨h1,h6⟩
 ·have:=h.cnt u n hu;show n<=(q.done++[t]).length;rw[List.length_append,List.length_singleton];omega
 ·rcases List.mem_append.1 hu with hu | hu
  ·exact h.begs u hu
  ·rw[List.mem_singleton.1 hu];exact hbt
theorem zaR.step(seesF:Crs->Int->Int->Int)(fallF:Crs->Int->Bool)(h:zaR m q){o:Op3}(h1:1<=o.1)(h6:o.1<=6):zaR (m+1) (stepQ seesF fallF q o):=by
 unfold stepQ;split
 ·exact(h.beg _).read _
 ·split
  ·exact(h.beg _).write _ _
  ·split
   ·split
    ·exact(h.beg _).more
    ·exact(h.beg _).end_ h1 h6 (zlm _ _)
   ·exact(h.beg _).more
end
theorem zh6(seesF:Crs->Int->Int->Int)(fallF:Crs->Int->Bool){l:List Op3}(hop:∀o∈l,isOpB o=true):∀k,k<=l.length->zaR k (runQ seesF fallF l k):=by
 intro k
 induction k with
 | zero=>intro _;exact crsOk0
 | succ k ih =>
   intro hk;have hm:opAt l k∈l:=by rw[zkI (by omega)];exact List.getElem_mem _
   have h1:=za1 (hop _ hm);exact(ih (by omega)).step seesF fallF h1.1 h1.2
structure zje(s:Kst)(q:Crs):Prop where
 done:q.done=s.done
 read:∀t,q.read t=(s.of t).seen
 wrote:∀t,q.wrote t=(s.of t).wrote
 beg:∀t,(q.began t).isSome=s.beg t
 cnt:∀t n,q.began t=some n->n<=s.done.length/\(∀i∈s.done.take n,(s.of i).ended<(s.of t).began)/\∀i∈s.done.drop n,i≠t->(s.of t).began<(s.of i).ended
theorem cfit0:zje zBR zBH:=⟨rfl,fun _=>rfl,fun _=>rfl,fun _=>rfl,fun _ _ h=>(by cases h)⟩
theorem zd7{l:List Int}{n:Nat}{i:Int}(h:i∈l.take n):i∈l:=List.mem_of_mem_take h
section
variable {l:List Op3} {k:Nat} {s:Kst} {q:Crs}
theorem zje.begin(h:zje s q)(hK:KOk l k s){t:Int}(hnd:t ∉ s.done)(hfr:s.beg t=false->s.of t=⟨0,0,[],[]⟩):zje (zaJ s k t) (begQ q t):=by
 have hoth:∀i∈s.done,setF s.of t (nowK s k t) i=s.of i:=fun i hi=>zaa _ _ fun e=>hnd (e ▸hi);have hb:=h.beg t;cases hbt:s.beg t with
 | true =>
   rw[hbt]at hb;have e1:begQ q t=q:=by unfold begQ;rw[if_pos hb]
   have e2:nowK s k t=s.of t:=by unfold nowK;rw[if_pos hbt]
   have e3:setF s.of t (nowK s k t)=s.of:=by rw[e2];funext u;by_cases e:u=t;· subst e;exact setF_same ..
                                             ·exact zaa _ _ e
   have e4:setF s.beg t true=s.beg:=by funext u;by_cases e:u=t;· subst e;rw[setF_same,hbt]
                                       ·exact zaa _ _ e
   have e5:zaJ s k t=s:=by unfold zaJ;rw[e3,e4]
   rw[e1,e5];exact h
 | false =>
   rw[hbt]at hb;have hq:begQ q t={ q with began:=setF q.began t (some q.done.length) }:=by unfold begQ;rw[if_neg (by rw[hb];decide)]
   have e2:nowK s k t=⟨k,-1,[],[]⟩:=by unfold nowK;rw[if_neg (by rw[hbt];decide)]
   have hz:=hfr hbt;rw[hq];refine⟨h.done,fun u=>?_,fun u=>?_,fun u=>?_,fun u n hu=>?_⟩
   ·show q.read u=(setF s.of t (nowK s k t) u).seen;by_cases e:u=t
    ·subst e;rw[setF_same,e2,h.read u,hz]
    ·rw[zaa _ _ e];exact h.read u
   ·show q.wrote u=(setF s.of t (nowK s k t) u).wrote;by_cases e:u=t
    ·subst e;rw[setF_same,e2,h.wrote u,hz]
    ·rw[zaa _ _ e];exact h.wrote u
   ·show(setF q.began t (some q.done.length) u).isSome=setF s.beg t true u;by_cases e:u=t
    ·subst e;rw[setF_same,setF_same];rfl
    ·rw[zaa _ _ e,zaa _ _ e];exact h.beg u
   ·show n<=s.done.length/\(∀i∈s.done.take n,(setF s.of t (nowK s k t) i).ended<(setF s.of t (nowK s k t) u).began)/\∀i∈s.done.drop n,i≠u->(setF s.of t (nowK s k t) u).began<(setF s.of t (nowK s k t) i).ended;have hu':setF q.began t (some q.done.length) u=some n:=hu;by_cases e:u=t
    ·subst e;rw[setF_same]at hu';have hn:n=s.done.length:=by rw[<-h.done];exact(Option.some.inj hu').symm
     subst hn;refine⟨Nat.le_refl _,fun i hi=>?_,fun i hi=>by rw[List.drop_length]at hi;cases hi⟩;rw[setF_same,hoth i (zd7 hi),e2];exact(hK.comm i (zd7 hi)).2.2.2.2.1
    ·rw[zaa _ _ e]at hu';obtain⟨a,b,c⟩:=h.cnt u n hu';refine⟨a,fun i hi=>?_,fun i hi hiu=>?_⟩
     ·rw[zaa _ _ e,hoth i (zd7 hi)];exact b i hi
     ·rw[zaa _ _ e,hoth i (List.mem_of_mem_drop hi)];exact c i hi hiu
theorem zje.grow(h:zje s q){t:Int}(r:Dl)(lk:List Op3)(q1:Crs)(hd:q1.done=q.done)(hb:q1.began=q.began)(hr:∀u,q1.read u=(setF s.of t r u).seen)(hw:∀u,q1.wrote u=(setF s.of t r u).wrote)(hbt:s.beg t=true)(h1:r.began=(s.of t).began)(h2:r.ended=(s.of t).ended):zje ⟨s.done,setF s.of t r,s.beg,lk⟩ q1:=by
 have hB:∀u,(setF s.of t r u).began=(s.of u).began:=fun u=>by
  by_cases e:u=t
  ·subst e;rw[setF_same];exact h1
  ·rw[zaa _ _ e]
 have hE:∀u,(setF s.of t r u).ended=(s.of u).ended:=fun u=>by
  by_cases e:u=t
  ·subst e;rw[setF_same];exact h2
  ·rw[zaa _ _ e]
 refine⟨by rw[hd];exact h.done,hr,hw,fun u=>by rw[hb];exact h.beg u,fun u n hu=>?_⟩;rw[hb]at hu;obtain⟨a,b,c⟩:=h.cnt u n hu;show n<=s.done.length/\(∀i∈s.done.take n,(setF s.of t r i).ended<(setF s.of t r u).began)/\∀i∈s.done.drop n,i≠u->(setF s.of t r u).began<(setF s.of t r i).ended;refine⟨a,fun i hi=>?_,fun i hi hiu=>?_⟩
 ·rw[hE,hB];exact b i hi
 ·rw[hE,hB];exact c i hi hiu
end
def seeK(kind:Int)(s:Kst)(at_:Int)(r:Dl)(t item:Int):Int:=if kind=1 then zkJ s.done s.of item at_ 0 else if kind=4 then zkJ s.done s.of item at_ t else zkJ s.done s.of item r.began 0
theorem zwn(kind:Int)(s:Kst)(at_:Int)(r:Dl)(t item:Int):fromK kind s at_ r t item=if inB r.wrote item=true then t else seeK kind s at_ r t item:=rfl
theorem zvt{α:Type}(f:Int->α)(t:Int)(a b:α):setF (setF f t a) t b=setF f t b:=by
 funext u
 by_cases e:u=t
 ·subst e;rw[setF_same,setF_same]
 ·rw[zaa _ _ e,zaa _ _ e,zaa _ _ e]
def zja(kind:Int)(okF:Kst->Int->Dl->Bool)(seesF:Crs->Int->Int->Int)(fallF:Crs->Int->Bool):Prop :=
 ∀ (l:List Op3) (k:Nat) (s:Kst) (q:Crs) (t:Int),KOk l k s->zje s q->zje (zaJ s k t) (begQ q t)->t ∉ s.done->1<=t->t<=6 ->
   (∀item,seesF (begQ q t) t item=seeK kind s k (nowK s k t) t item)/\fallF (begQ q t) t=!okF s t (nowK s k t)
def ziy(l:List Op3)(kind:Int)(okF:Kst->Int->Dl->Bool)(seesF:Crs->Int->Int->Int)(fallF:Crs->Int->Bool):Prop :=
 ∀ (k:Nat) (s:Kst) (q:Crs) (t:Int),k<=l.length->s=runK kind okF l k->KOk l k s->zje s q->zje (zaJ s k t) (begQ q t)->t ∉ s.done->1<=t->t<=6 ->
   (∀item,seesF (begQ q t) t item=seeK kind s k (nowK s k t) t item)/\fallF (begQ q t) t=!okF s t (nowK s k t)
theorem zja.at{kind:Int}{okF:Kst->Int->Dl->Bool}{seesF:Crs->Int->Int->Int}{fallF:Crs->Int->Bool}(h:zja kind okF seesF fallF)(l:List Op3):ziy l kind okF seesF fallF:=fun k s q t _ _ h1 h2 h3 h4 h5 h6=>h l k s q t h1 h2 h3 h4 h5 h6
theorem zut{kind:Int}{okF:Kst->Int->Dl->Bool}{seesF:Crs->Int->Int->Int}{fallF:Crs->Int->Bool}{l:List Op3}(hR:ziy l kind okF seesF fallF){k:Nat}{s:Kst}{q:Crs}(hkl:k<=l.length)(hsr:s=runK kind okF l k)(h:zje s q)(hK:KOk l k s){o:Op3}(hnd:o.1 ∉ s.done)(hfr:s.beg o.1=false->s.of o.1=⟨0,0,[],[]⟩)(ho1:1<=o.1)(ho6:o.1<=6):zje (zeR kind okF s k o) (stepQ seesF fallF q o):=by
 obtain⟨t,a,i⟩:=o;simp only at hnd hfr ho1 ho6;have h1:=h.begin hK hnd hfr;obtain⟨hs,hf⟩:=hR k s q t hkl hsr hK h h1 hnd ho1 ho6;have hbt:(zaJ s k t).beg t=true:=by show setF s.beg t true t=true;exact setF_same ..
 have hof:(zaJ s k t).of t=nowK s k t:=by show setF s.of t _ t=_;exact setF_same ..
 unfold zeR stepQ;simp only;split
 ·have hsrc:zvV seesF (begQ q t) t i=fromK kind s k (nowK s k t) t i:=by
   unfold zvV;rw[zwn,h1.wrote t,hof,hs i]
  rw[hsrc];unfold zpe;have:=h1.grow (t:=t) { nowK s k t with seen:=(nowK s k t).seen++[(t,i,fromK kind s k (nowK s k t) t i)] } (if kind=4/\inB (nowK s k t).wrote i=false then s.looks++[(t,i,fromK kind s k (nowK s k t) t i)]else s.looks) (readQ (begQ q t) (t,i,fromK kind s k (nowK s k t) t i)) rfl rfl (fun u=>?_) (fun u=>?_) hbt (by rw[hof]) (by rw[hof])
  ·have e:setF (zaJ s k t).of t { nowK s k t with seen:=(nowK s k t).seen++[(t,i,fromK kind s k (nowK s k t) t i)] }=setF s.of t { nowK s k t with seen:=(nowK s k t).seen++[(t,i,fromK kind s k (nowK s k t) t i)] }:=zvt _ _ _ _;rw[e]at this;exact this
  ·show setF (begQ q t).read t ((begQ q t).read t++[(t,i,fromK kind s k (nowK s k t) t i)]) u=_;by_cases e:u=t
   ·subst e;rw[setF_same,setF_same,h1.read u,hof]
   ·rw[zaa _ _ e,zaa _ _ e];exact h1.read u
  ·show(begQ q t).wrote u=_;by_cases e:u=t
   ·subst e;rw[setF_same,h1.wrote u,hof]
   ·rw[zaa _ _ e];exact h1.wrote u
 ·split
  ·unfold zl8;have:=h1.grow (t:=t) { nowK s k t with wrote:=(nowK s k t).wrote++[i] } s.looks (zjK (begQ q t) t i) rfl rfl (fun u=>?_) (fun u=>?_) hbt (by rw[hof]) (by rw[hof])
   ·have e:setF (zaJ s k t).of t { nowK s k t with wrote:=(nowK s k t).wrote++[i] }=setF s.of t { nowK s k t with wrote:=(nowK s k t).wrote++[i] }:=zvt _ _ _ _;rw[e]at this;exact this
   ·show(begQ q t).read u=_;by_cases e:u=t
    ·subst e;rw[setF_same,h1.read u,hof]
    ·rw[zaa _ _ e];exact h1.read u
   ·show setF (begQ q t).wrote t ((begQ q t).wrote t++[i]) u=_;by_cases e:u=t
    ·subst e;rw[setF_same,setF_same,h1.wrote u,hof]
    ·rw[zaa _ _ e,zaa _ _ e];exact h1.wrote u
  ·split
   ·rw[hf];cases hok:okF s t (nowK s k t)with
    | false =>rw[if_neg (by decide),if_pos (by decide)];exact h1
    | true =>
      rw[if_pos rfl,if_neg (by decide)];unfold zph;have hoth:∀u,u≠t->setF s.of t { nowK s k t with ended:=(k:Int) } u=s.of u:=fun u hu=>zaa _ _ hu;refine⟨?_,fun u=>?_,fun u=>?_,fun u=>h1.beg u,fun u n hu=>?_⟩
      ·show(begQ q t).done++[t]=s.done++[t];rw[h1.done];rfl
      ·show(begQ q t).read u=(setF s.of t { nowK s k t with ended:=(k:Int) } u).seen;by_cases e:u=t
       ·subst e;rw[setF_same,h1.read u,hof]
       ·rw[hoth u e,zht];exact h.read u
      ·show(begQ q t).wrote u=(setF s.of t { nowK s k t with ended:=(k:Int) } u).wrote;by_cases e:u=t
       ·subst e;rw[setF_same,h1.wrote u,hof]
       ·rw[hoth u e,zb7];exact h.wrote u
      ·show n<=(s.done++[t]).length/\(∀i∈(s.done++[t]).take n,(setF s.of t { nowK s k t with ended:=(k:Int) } i).ended<(setF s.of t { nowK s k t with ended:=(k:Int) } u).began)/\∀i∈(s.done++[t]).drop n,i≠u->(setF s.of t { nowK s k t with ended:=(k:Int) } u).began<(setF s.of t { nowK s k t with ended:=(k:Int) } i).ended;have hu1:(begQ q t).began u=some n:=hu
       have hbu:(setF s.of t { nowK s k t with ended:=(k:Int) } u).began=(setF s.of t (nowK s k t) u).began:=by
        by_cases e:u=t
        ·subst e;rw[setF_same,setF_same]
        ·rw[zaa _ _ e,zaa _ _ e]
       obtain⟨a,b,c⟩:=h1.cnt u n hu1;have a':n<=s.done.length:=a;have b':∀i∈s.done.take n,(setF s.of t (nowK s k t) i).ended<(setF s.of t (nowK s k t) u).began:=b;have c':∀i∈s.done.drop n,i≠u->(setF s.of t (nowK s k t) u).began<(setF s.of t (nowK s k t) i).ended:=c;have hne:∀i∈s.done,i≠t:=fun i hi e=>hnd (e ▸hi);refine⟨by rw[List.length_append,List.length_singleton];omega,fun i hi=>?_,fun i hi hiu=>?_⟩
       ·rw[List.take_append_of_le_length a']at hi;have:=b' i hi;rw[zaa _ _ (hne i (zd7 hi))]at this ⊢;rw[hbu];exact this
       ·rw[List.drop_append_of_le_length a']at hi;rw[hbu];rcases List.mem_append.1 hi with hi | hi
        ·have:=c' i hi hiu;rw[zaa _ _ (hne i (List.mem_of_mem_drop hi))]at this ⊢;exact this
        ·have hit:=List.mem_singleton.1 hi;have hut:u≠t:=fun e=>hiu (hit.trans e.symm);have hub:s.beg u=true:=by have:=h1.beg u;rw[hu1]at this;have h5:setF s.beg t true u=true:=this.symm;rw[zaa _ _ hut]at h5;exact h5
         rw[hit,setF_same,zaa _ _ hut];exact(hK.times u hub).2
   ·exact h1
theorem zpJ(kind:Int)(okF:Kst->Int->Dl->Bool)(l:List Op3):∀k t,(runK kind okF l k).beg t=false->(runK kind okF l k).of t=⟨0,0,[],[]⟩:=by
 intro k
 induction k with
 | zero=>intro t _;rfl
 | succ k ih =>
   intro t ht
   have key:∀r:Dl,setF (runK kind okF l k).beg (opAt l k).1 true t=false->setF (runK kind okF l k).of (opAt l k).1 r t=⟨0,0,[],[]⟩:=fun r hb=>by
    have hne:t≠(opAt l k).1:=fun e=>by rw[e,setF_same]at hb;cases hb
    rw[zaa _ _ hne]at hb ⊢;exact ih t hb
   have ht':(zeR kind okF (runK kind okF l k) k (opAt l k)).beg t=false:=ht;show(zeR kind okF (runK kind okF l k) k (opAt l k)).of t=_;unfold zeR at ht' ⊢;split at ht'
   ·rename_i h1;rw[if_pos h1];exact key _ ht'
   ·rename_i h1;rw[if_neg h1];split at ht'
    ·rename_i h2;rw[if_pos h2];exact key _ ht'
    ·rename_i h2;rw[if_neg h2];split at ht'
     ·rename_i h3;rw[if_pos h3];split at ht'
      ·rename_i h4;rw[if_pos h4];exact key _ ht'
      ·rename_i h4;rw[if_neg h4];exact key _ ht'
     ·rename_i h3;rw[if_neg h3];exact key _ ht'
theorem zuX{kind:Int}{okF:Kst->Int->Dl->Bool}{seesF:Crs->Int->Int->Int}{fallF:Crs->Int->Bool}{l:List Op3}(hR:ziy l kind okF seesF fallF)(hc:(chk l).2=0):∀k,k<=l.length->zje (runK kind okF l k) (runQ seesF fallF l k):=by
 intro k
 induction k with
 | zero=>intro _;exact cfit0
 | succ k ih =>intro hk;have hK:=zhS kind okF hc k (by omega);have h16:=za1 (((zbq l).1 hc).2.1 _ (zal (show k<l.length by omega)));exact zut hR (by omega) rfl (ih (by omega)) hK (hK.free ((zbq l).1 hc).2.2 (by omega)) (zpJ kind okF l k _) h16.1 h16.2
theorem zyt{kind:Int}{okF:Kst->Int->Dl->Bool}{seesF:Crs->Int->Int->Int}{fallF:Crs->Int->Bool}(byN:Bool){l:List Op3}(hR:ziy l kind okF seesF fallF)(hc:(chk l).2=0):outU kind okF byN l=((zom byN (runQ seesF fallF l l.length).done,(zom byN (runQ seesF fallF l l.length).done).flatMap (runQ seesF fallF l l.length).read,(List.range 6).map fun i:Nat=>lastQ (runQ seesF fallF l l.length).wrote (zom byN (runQ seesF fallF l l.length).done) ((i:Int)+1)),0):=by have h:=zuX hR hc l.length (Nat.le_refl _);rw[zkC hc];have e1:(runQ seesF fallF l l.length).read=fun t=>((runK kind okF l l.length).of t).seen:=funext h.read;have e2:(runQ seesF fallF l l.length).wrote=fun t=>((runK kind okF l l.length).of t).wrote:=funext h.wrote;rw[e1,e2,h.done];rfl
theorem znV{kind:Int}{okF:Kst->Int->Dl->Bool}{seesF:Crs->Int->Int->Int}{fallF:Crs->Int->Bool}(hR:zja kind okF seesF fallF){l:List Op3}(hc:(chk l).2=0):outU kind okF false l=(((runQ seesF fallF l l.length).done,(runQ seesF fallF l l.length).done.flatMap (runQ seesF fallF l l.length).read,(List.range 6).map fun i:Nat=>lastQ (runQ seesF fallF l l.length).wrote (runQ seesF fallF l l.length).done ((i:Int)+1)),0):=zyt false (hR.at l) hc
def seesV(q:Crs)(_ item:Int):Int:=lastQ q.wrote q.done item
def zgg(q:Crs)(t:Int):Bool:=(q.done.drop ((q.began t).getD 0)).any fun o=>(q.read t).any fun x=>x.2.2 != t && inB (q.wrote o) x.2.1
theorem zAL:zja 1 okV seesV zgg:=by
 intro l k s q t hK h h1 hnd _ _;constructor
 ·intro item;unfold seesV seeK;rw[if_pos rfl,zbI,zb7,h.done,zpL (fun i hi=>(hK.comm i hi).2.2.2.2.1)];unfold lastQ lastK;have e2:q.wrote=fun t=>(s.of t).wrote:=funext h.wrote;rw[e2]
 ·have hb:((begQ q t).began t).isSome=true:=by rw[h1.beg t];show setF s.beg t true t=true;exact setF_same ..
  obtain⟨n,hn⟩:=Option.isSome_iff_exists.1 hb;obtain⟨a,b,c⟩:=h1.cnt t n hn;have hof:(zaJ s k t).of t=nowK s k t:=by show setF s.of t _ t=_;exact setF_same ..
  have hoth:∀i∈s.done,(zaJ s k t).of i=s.of i:=fun i hi=>by show setF s.of t _ i=_;exact zaa _ _ fun e=>hnd (e ▸hi)
  have a':n<=s.done.length:=a;have b':∀i∈s.done.take n,((zaJ s k t).of i).ended<((zaJ s k t).of t).began:=b;have c':∀i∈s.done.drop n,i≠t->((zaJ s k t).of t).began<((zaJ s k t).of i).ended:=c;unfold zgg okV zyP;rw[Bool.not_not,hn,zbI,h.done,h1.read t,hof,zb7,Bool.eq_iff_iff];simp only[Option.getD_some,List.any_eq_true,Bool.and_eq_true,decide_eq_true_eq];constructor
  ·rintro⟨i,hi,x,hx,hxt,hw⟩;have hi':=List.mem_of_mem_drop hi;have hc':=c' i hi fun e=>hnd (e ▸hi');rw[hof,hoth i hi']at hc';rw[h.wrote i]at hw;refine⟨i,hi',x.2.1,zaV.1 hw,hc',?_⟩;rw[if_neg (by decide)];exact List.any_eq_true.2 ⟨x,hx,by simp only[Bool.and_eq_true,beq_self_eq_true,true_and];exact hxt⟩
  ·rintro⟨i,hi,item,hit,hlt,hrd⟩;rw[if_neg (by decide)]at hrd;obtain⟨x,hx,hxx⟩:=List.any_eq_true.1 hrd;simp only[Bool.and_eq_true,beq_iff_eq]at hxx;refine⟨i,?_,x,hx,hxx.2,?_⟩
   ·rcases List.mem_append.1 (by rw[List.take_append_drop];exact hi:i∈s.done.take n++s.done.drop n)with hm | hm
    ·have:=b' i hm;rw[hof,hoth i hi]at this;omega
    ·exact hm
   ·rw[h.wrote i,hxx.1];exact zaV.2 hit
end Go.Proofs.YthlhgiihngcobaaGreatDoor
