/-
  PROVED HERE: strict.lane's small methods, over a run in memory; graph.stepsOf tells of right edges from which deal one leads to which; of the blocks below a base only one has turned (Past); graph.reached, with its closure that calls itself, sees just the deals to which there is a way of at least.
  Conditions: none but those that each theorem's own premises say.
-/
import Derived.Test.YthlhgiihngcobaaGreatDoorMgbl
import Derived.Test.YthlhgiihngcobaaGreatDoorMgbm
import Derived.Test.YthlhgiihngcobaaGreatDoorMgbj
import Derived.Test.YthlhgiihngcobaaGreatDoorMgan
import Derived.Test.YthlhgiihngcobaaGreatDoorMgaw
import Derived.Test.YthlhgiihngcobaaGreatDoorMgag
set_option maxHeartbeats 32000000
set_option maxRecDepth 100000
namespace Go.Proofs.YthlhgiihngcobaaGreatDoor
open Go.RowKit
theorem zag{p:Prop}(h:p):Hid p:=h
theorem zpp(w:World):(zeroValue 3).run Tryz.prog w=.ok (.int .i64 0) w:=by kernel_rfl
theorem zmZ(w:World):(zeroValue 269).run Tryz.prog w=.ok (.agg #[.int .i64 0,.int .i64 0,.int .i64 0]) w:=by kernel_rfl
theorem zb1(w:World):(zeroValue 28).run Tryz.prog w=.ok (.slice none 0 0) w:=by kernel_rfl
theorem zve:(Tryz.prog.info? 103).map (fun i=>(i.zero,i.size,i.bytes))=some (some (.agg #[.int .i64 0,.int .i64 0,.int .i64 0]),3,24):=by kernel_rfl
def wm(r:zat)(P:Int->Option Op3)(d:Int):Option Value:=if r.waits d=true/\P d=none then some (zgA (zea (r.op d)))else none
section
variable {w w1 w2 W:World} {R n q:Nat} {way:Int} {r:zat} {g:Int->Option Value} {c:Lay} {ob:Obj} {ad:Option Addr} {v2:Value}
theorem zah.tellD{x:Op3}(h:zah W R way r g c)(e:c.tv=.slice ad n q)(hn:r.told.length=n)(hown:w2.ownsRow 0 103 3 v2 (n+1) (flat r.told++flat [x]))(hgr:(W.drew.alloc ob).grownBy w2 (Value.slice ad n q).ownBlock)(hap:∀k,v2.ownBlock=some k->(Value.slice ad n q).ownBlock=some k\/(W.drew.alloc ob).heap.size<=k):w2.cell? ⟨R,2,none⟩=some (.slice ad n q)/\w2.frozen? ⟨R,2,none⟩=false/\zav W (w2.setCell ⟨R,2,none⟩ v2) R way c { r with told:=r.told++[x] } g:=by
 have htu:zac (fun k=>c.tv.ownBlock=some k) W w2:=by rw[e];exact zbx hgr
 rw[<-e]
 exact h.pushTold htu (by rw[hn];exact hown) fun k hk=>by
  rcases apart_later hap k hk with h1 | h1
  ·exact .inl (by rw[e];exact h1)
  ·exact .inr h1
end
theorem tell_run{R:Nat}{way:Int}{r:zat}{g:Int->Option Value}{c:Lay}(x:Op3){w:World}(h:zah w R way r g c)(hl:r.told.length<=47):Calls Tryz.prog 190 #[.pointer (some ⟨R,0,none⟩),zgA x] w fun e w'=>e=.returned (.tuple #[])/\zav w w' R way c { r with told:=r.told++[x] } g:=by
 obtain⟨t,a,i⟩:=x;obtain⟨i0,hi,hz0,hs0,hy0⟩:=info_parts zve;have HI:Hid (Tryz.prog.info? 103=some i0/\i0.zero=some (.agg #[.int .i64 0,.int .i64 0,.int .i64 0])/\i0.size=3/\i0.bytes=24):=⟨hi,hz0,hs0,hy0⟩;have HL:=zag h;clear hi hz0 hs0 hy0;go_enter Tryz.func190,Tryz.ntmps190
 go_upto_region 1 with(fail)
 obtain⟨W,hW⟩:∃W,W=w.alloc (.cells #[.int .i64 t,.int .i64 a,.int .i64 i] 103):=⟨_,rfl⟩;rw[<-hW];have hbW:Below w.heap.size w W:=by rw[hW];exact(Below.refl _ w).alloc (Nat.le_refl _) _
 have p0:W.cell? ⟨w.heap.size,0,none⟩=some (.int .i64 t):=by rw[hW];simp
 have p1:W.cell? ⟨w.heap.size,1,none⟩=some (.int .i64 a):=by rw[hW];simp
 have p2:W.cell? ⟨w.heap.size,2,none⟩=some (.int .i64 i):=by rw[hW];simp
 obtain⟨P,hP⟩:∃P,P=w.heap.size:=⟨_,rfl⟩;rw[<-hP]at p0 p1 p2 ⊢;have hLW:=h.below hbW;have HLW:=zag hLW;have HBW:=zag hbW;obtain⟨ad5,c5,e5,-⟩:=zad hLW.told;obtain⟨n5,hn5⟩:∃n,r.told.length=n:=⟨_,rfl⟩;rw[hn5]at e5 hl;have c2:=hLW.c2;rw[e5]at c2;have hRW:=hLW.lt;have HV:Hid (W.ownsRow 0 103 3 (.slice ad5 n5 c5) n5 (flat r.told)):=by show World.ownsRow _ _ _ _ _ _ _;have:=hLW.told;rw[e5,hn5]at this;exact this
 have HPT:Hid (∀v2 w2 (ob:Obj),w2.ownsRow 0 103 3 v2 (n5+1) (flat r.told++flat [(t,a,i)])->(W.drew.alloc ob).grownBy w2 (Value.slice ad5 n5 c5).ownBlock->(∀k,v2.ownBlock=some k->(Value.slice ad5 n5 c5).ownBlock=some k\/(W.drew.alloc ob).heap.size<=k)->w2.cell? ⟨R,2,none⟩=some (.slice ad5 n5 c5)/\w2.frozen? ⟨R,2,none⟩=false/\zav W (w2.setCell ⟨R,2,none⟩ v2) R way c { r with told:=r.told++[(t,a,i)] } g):=fun v2 w2 ob h1 h2 h3=>HLW.out.tellD e5 hn5 h1 h2 h3;have hc2:∀ob:Obj,(W.alloc ob).cell? ⟨R,2,none⟩=some (.slice ad5 n5 c5):=fun ob=>by rw[World.cell?_alloc_lt _ _ ⟨R,2,none⟩ hRW];exact c2
 have hPW:P<W.heap.size:=World.block_lt_of_cell? W _ p0;clear hW hbW hP hLW e5 hn5 h
 go_region_law (refine zaB rfl (.tmp 8) (.tmp 10) 28 rfl 0 103 i0 (.agg #[.int .i64 0,.int .i64 0,.int .i64 0]) 3 24 Tryz.underlying28 HI.out.1 HI.out.2.1 HI.out.2.2.1 HI.out.2.2.2 rfl (by decide) (.slice ad5 n5 c5) n5 (flat r.told) (by simp[Act.eval]) (HV.out.alloc _) ⟨W.heap.size,0,none⟩ 1 1 (flat [(t,a,i)]) (by simp[Act.eval]) rfl (zeF W (t,a,i) _) (zba _) (by unfold maxLen;omega) (by omega) (Nat.zero_le _) ?_;intro v2 w2 hown2 hgr2 hap2;obtain⟨g0,g1,g2⟩:=HPT.out v2 w2 _ hown2 hgr2 hap2;clear hap2 hgr2;obtain⟨ad6,c6,rfl,-⟩:=zad hown2;have HK2:=zag g2;clear g2 hown2)
 all_goals
  go_wp2_with fail;go_end0;exact⟨rfl,zav.later HBW.out HK2.out⟩
theorem zfA{R:Nat}{way:Int}{r:zat}{g:Int->Option Value}{c:Lay}{w:World}(h:zah w R way r g c){d:Int}(hd:Wf d):Calls Tryz.prog 142 #[.pointer (some ⟨R,0,none⟩),.int .i64 d] w fun e w'=>e=.returned (.bool (decide (d∈r.vict)))/\w'=w:=by have c3:=h.c3;have HM:=zag h.outs;have HV:=zag (zb8 r.vict d);clear h;go_enter Tryz.func142,Tryz.ntmps142;go_wp2_with (at_lookup;refine zbO _ rfl (.tmp 11) (.tmp 12) 148 true rfl 3 Tryz.underlying148 (.int .i64 0) (zpp _) c.A r.vict.length (zbt r.vict) rfl HM.out d rfl hd _ _ rfl HV.out ?_);go_ret;exact⟨rfl,rfl⟩
def zBx(g:Int->Option Value):Prop:=∀d,∃x:Op3,(g d).getD (.agg #[.int .i64 0,.int .i64 0,.int .i64 0])=zgA x
theorem zny(r:zat)(P:Int->Option Op3):zBx (wm r P):=fun d=>by
 unfold wm;split
 ·exact⟨_,rfl⟩
 ·exact⟨(0,0,0),rfl⟩
theorem zdw{R:Nat}{way:Int}{r:zat}{g:Int->Option Value}{c:Lay}{w:World}(h:zah w R way r g c)(hg:zBx g){d:Int}(hd:Wf d):Calls Tryz.prog 143 #[.pointer (some ⟨R,0,none⟩),.int .i64 d] w fun e w'=>e=.returned (.bool (g d).isSome)/\Below w.heap.size w w':=by have c4:=h.c4;obtain⟨m,hm⟩:=h.wts;have HM:=zag hm;obtain⟨⟨x,y,z⟩,hx⟩:=hg d;have HX:=zag hx;obtain⟨b,hb⟩:∃b,(g d).isSome=b:=⟨_,rfl⟩;rw[hb];clear h hg hm hx;go_enter Tryz.func143,Tryz.ntmps143;go_wp2_with (at_lookup;refine zbO _ rfl (.tmp 11) (.tmp 12) 149 true rfl 269 Tryz.underlying149 (.agg #[.int .i64 0,.int .i64 0,.int .i64 0]) (zmZ _) c.W m g rfl HM.out d rfl hd (.agg #[.int .i64 x,.int .i64 y,.int .i64 z]) b HX.out hb ?_);go_ret;exact⟨rfl,(Below.refl _ w).alloc (Nat.le_refl _) _⟩
theorem zrS(o:Op3)(ho:o.2.1=1\/o.2.1=2)(w:World):Calls Tryz.prog 192 #[zgA o] w fun e w'=>e=.returned (zgA (zea o))/\Below w.heap.size w w':=by
 obtain⟨t,a,i⟩:=o;have hb:∀A B:Obj,Below w.heap.size w ((w.alloc A).alloc B):=fun A B=>((Below.refl _ w).alloc (Nat.le_refl _) A).alloc (by simp) B;rcases ho with rfl | rfl
 ·go_enter Tryz.func192,Tryz.ntmps192;go_wp2_with fail;refine bodyPost_ret (v:=.agg #[.int .i64 t,.int .i64 i,.int .i64 1]) (by simp[results,Tryz.results192,go_sem]) rfl ⟨rfl,?_⟩;exact hb _ _
 ·go_enter Tryz.func192,Tryz.ntmps192;go_wp2_with fail;refine bodyPost_ret (v:=.agg #[.int .i64 t,.int .i64 i,.int .i64 2]) (by simp[results,Tryz.results192,go_sem]) rfl ⟨rfl,?_⟩;exact hb _ _
theorem zwY(o:Op3)(ho:o.2.2=1\/o.2.2=2)(w:World):Calls Tryz.prog 221 #[zgA o] w fun e w'=>e=.returned (zgA (zea o))/\Below w.heap.size w w':=by
 obtain⟨t,i,a⟩:=o;have hb:∀A B:Obj,Below w.heap.size w ((w.alloc A).alloc B):=fun A B=>((Below.refl _ w).alloc (Nat.le_refl _) A).alloc (by simp) B;rcases ho with rfl | rfl
 ·go_enter Tryz.func221,Tryz.ntmps221;go_wp2_with fail;refine bodyPost_ret (v:=.agg #[.int .i64 t,.int .i64 1,.int .i64 i]) (by simp[results,Tryz.results221,go_sem]) rfl ⟨rfl,?_⟩;exact hb _ _
 ·go_enter Tryz.func221,Tryz.ntmps221;go_wp2_with fail;refine bodyPost_ret (v:=.agg #[.int .i64 t,.int .i64 2,.int .i64 i]) (by simp[results,Tryz.results221,go_sem]) rfl ⟨rfl,?_⟩;exact hb _ _
theorem ztn{s:za3}{x:Op3}(h:zak x=true):zmO s x=(zyy s x,0):=by unfold zmO;rw[if_pos h]
theorem zet{R:Nat}{way:Int}{r:zat}{P:Int->Option Op3}{c:Lay}{w:World}(h:zah w R way r (wm r P) c)(hf:zbw r P){d:Int}(hd:Wf d)(hl1:r.tab.1.length<=400)(hl2:r.tab.2.length<=400):Calls Tryz.prog 232 #[.pointer (some ⟨R,0,none⟩),.int .i64 d] w fun e w'=>∃v,e=.returned v/\zgO w' w.heap.size v (zaN r.tab d)/\Below w.heap.size w w':=by
 have c4:=h.c4;have c1:=h.c1;have hRl:=h.lt;obtain⟨m,hm⟩:=h.wts;have HM:=zag hm;have HL:=zag h;by_cases hw:r.waits d=true/\P d=none
 ·have HX:Hid ((wm r P d).getD (.agg #[.int .i64 0,.int .i64 0,.int .i64 0])=zgA (zea (r.op d))/\(wm r P d).isSome=true):=by unfold wm;rw[if_pos hw];exact⟨rfl,rfl⟩
  have HW:=zag (hf.whom_yes hw.1 hw.2);have HK:=zag (hf.lock d hw.1).1;obtain⟨⟨x,y,z⟩,hx⟩:∃x,zea (r.op d)=x:=⟨_,rfl⟩;rw[hx]at HX HW HK;have HT:Hid (∀W,Below w.heap.size w W->Calls Tryz.prog 263 #[.pointer (some ⟨c.T,0,none⟩),.agg #[.int .i64 x,.int .i64 y,.int .i64 z]] W fun e w'=>∃ad n q,e=.returned (.tuple #[.slice ad n q,.nilIface])/\zgO w' w.heap.size (.slice ad n q) (zaN r.tab d)/\Below w.heap.size w w'):=fun W hW=>by refine(zx3 W c.T c.F r.tab (x,y,z) (HL.out.below hW).tab hl1 hl2).mono ?_;rintro e w' ⟨v',rfl,hi,hb⟩;rw[ztn HK.out]at hi ⊢;have hi2:=hi;obtain⟨ad,cap,rfl,-⟩:=zad hi;exact⟨ad,_,cap,rfl,by rw[HW.out];exact hi2.less hW.size,hW.trans (hb.mono hW.size)⟩
  clear hw hx hf h hm;go_enter Tryz.func232,Tryz.ntmps232;go_wp2_with (at_lookup;refine zbO _ rfl (.tmp 13) (.tmp 14) 149 true rfl 269 Tryz.underlying149 (.agg #[.int .i64 0,.int .i64 0,.int .i64 0]) (zmZ _) c.W m (wm r P) rfl HM.out d rfl hd (.agg #[.int .i64 x,.int .i64 y,.int .i64 z]) true HX.out.1 HX.out.2 ?_)
  go_region_with (first | (go_at_call 263;refine(HT.out _ ?_).mono ?_;exact(((Below.refl _ w).alloc (Nat.le_refl _) _)).drew;rintro e w2 ⟨ad2,n2,q2,rfl,hi2,hb2⟩))
  all_goals
   go_wp2_with fail;go_ret;exact⟨_,rfl,hi2,hb2⟩
 ·have HX:Hid ((wm r P d).getD (.agg #[.int .i64 0,.int .i64 0,.int .i64 0])=.agg #[.int .i64 0,.int .i64 0,.int .i64 0]/\(wm r P d).isSome=false):=by unfold wm;rw[if_neg hw];exact⟨rfl,rfl⟩
  have HW:=zag (hf.whom_no hw);clear hw hf h hm;go_enter Tryz.func232,Tryz.ntmps232;go_wp2_with (at_lookup;refine zbO _ rfl (.tmp 13) (.tmp 14) 149 true rfl 269 Tryz.underlying149 (.agg #[.int .i64 0,.int .i64 0,.int .i64 0]) (zmZ _) c.W m (wm r P) rfl HM.out d rfl hd (.agg #[.int .i64 0,.int .i64 0,.int .i64 0]) false HX.out.1 HX.out.2 ?_);go_ret;exact⟨_,rfl,by rw[HW.out];exact World.ownsRow_nil _ _ _ _,(Below.refl _ w).alloc (Nat.le_refl _) _⟩
end Go.Proofs.YthlhgiihngcobaaGreatDoor
namespace Go.Proofs.YthlhgiihngcobaaGreatDoor
open Go.RowKit
theorem zvz(l:List zab)(t a:Nat):zAI (stepsS l) t a=stepsS (l++[((t:Int),(a:Int))]):=by
 funext i k
 rw[znn,zhf,zhf];unfold zAI;by_cases h:i=t/\k=a
 ·rw[if_pos h,h.1,h.2];simp
 ·rw[if_neg h];by_cases h1:i=t
  ·by_cases h2:k=a
   ·exact absurd ⟨h1,h2⟩ h
   ·simp[h2]
  ·simp[h1]
theorem zm9(l:List zab)(v:Value)(w:World)(hI:zaj w v l)(hd:∀e∈l,(1<=e.1/\e.1<=6)/\(1<=e.2/\e.2<=6))(hl:l.length<=60):Calls Tryz.prog 278 #[v] w fun e w'=>e=.returned (.agg (cells49 (stepsS l)))/\Below w.heap.size w w':=by
 obtain⟨ad,b,off,cap,rfl,ha,-,hbB,hops⟩:=hI;have HO:Hid (∀W,Below w.heap.size w W->∀k,k<l.length->ad=some ⟨b,off,none⟩/\W.cell? ⟨b,off+k*2,none⟩=some (.int .i64 (l.getD k (0,0)).1)/\W.cell? ⟨b,off+k*2+1,none⟩=some (.int .i64 (l.getD k (0,0)).2)):=fun W hW k hk=>⟨ha (by omega),(hops.below hW hbB) k hk⟩;have HD:Hid (∀e∈l,(1<=e.1/\e.1<=6)/\(1<=e.2/\e.2<=6)):=hd;clear ha hbB hops hd;go_enter Tryz.func278,Tryz.ntmps278;go_wp2
 go_loopw [8] (fun v8 wr=>∃k:Nat,k<=l.length/\v8=.int .i64 k/\Below w.heap.size w wr/\zbp wr w.heap.size (fun _ _=>false)/\zbp wr (w.heap.size+1) (stepsS (l.take k))) (fun v8 _=>l.length-(intOf v8).toNat)
 case atStart =>refine⟨0,Nat.zero_le _,rfl,((Below.refl _ w).alloc (Nat.le_refl _) _).alloc (by simp) _,(zkN w _ rfl).alloc _,(zqE w _ _ rfl).congr rfl⟩
 case round =>
  obtain⟨k,hk,rfl,hbel,hz,hs⟩:=hrel;have hB1:=hs.lt;have HZ:Hid (zbp wr w.heap.size (fun _ _=>false)):=hz;have HS:Hid (zbp wr (w.heap.size+1) (stepsS (l.take k))):=hs;clear hz hs;by_cases hlt:k<l.length
  ·obtain⟨rfl,c0,c1⟩:=HO.out wr hbel k hlt;obtain⟨⟨t,a⟩,ho⟩:∃o:zab,l.getD k (0,0)=o:=⟨_,rfl⟩;rw[ho]at c0 c1;have hmem:(t,a)∈l:=by rw[<-ho];simp[List.getD,List.getElem?_eq_getElem hlt]
   have hta:=HD.out _ hmem;simp only at hta c0 c1;obtain⟨t,rfl⟩:∃n:Nat,t=n:=⟨t.toNat,by omega⟩;obtain⟨a,rfl⟩:∃n:Nat,a=n:=⟨a.toNat,by omega⟩;have HT:Hid (l.take (k+1)=l.take k++[((t:Int),(a:Int))]):=by show l.take (k+1)=l.take k++[((t:Int),(a:Int))];rw[List.take_succ_eq_append_getElem hlt,<-ho];simp[List.getD,List.getElem?_eq_getElem hlt]
   have ht1:1<=t:=by omega
   have ht6:t<=6:=by omega
   have ha1:1<=a:=by omega
   have ha6:a<=6:=by omega
   clear ho hmem hta;have hsz:=hbel.size;have ht7:(t:Int)<7:=by omega
   have ha7:(a:Int)<7:=by omega
   have hB0:w.heap.size<wr.heap.size:=by omega
   have f0:=HS.out.cell (i:=t) (k:=a) (by omega) (by omega);have z0:=HS.out.thaw (t*7+a);go_wp2;go_region
   all_goals
    go_wp2;go_roundw
    case rel=>exact⟨k+1,by omega,by go_num,((hbel.setCell (by simp) _).alloc (by simpa using hsz) _).drew,((HZ.out.far _ (by simp)).alloc _).drew,(((HS.out.set (by omega)).alloc _).drew).congr (by rw[HT.out,zvz])⟩
    case measure=>simp[intOf];omega
  ·have HS':Hid (zbp wr (w.heap.size+1) (stepsS l)):=by
    have h1:=HS.out;rw[List.take_of_length_le (by omega)]at h1;exact h1
   clear HS;go_wp2_with (first | refine wpList_load_row rfl 330 (.tmp 3) rfl (w.heap.size+1) rfl 330 (cells49 (stepsS l)) (0,0) _ HS'.out Tryz.underlying330 rfl (ziD _) ?_ | refine wpList_store_row rfl 330 (.tmp 2) (.tmp 19) rfl w.heap.size (cells49 (stepsS l)) rfl rfl 330 (cells49 fun _ _=>false) HZ.out (ziD _) (by rw[zcg,zcg]) (znl _) ?_);exact bodyPost_ret (v:=.agg (cells49 (stepsS l))) (results_cell_row Tryz.results278 _ _ w.heap.size 330 (cells49 (stepsS l)) (0,0) _ rfl (setRow_heap _ _ _ _ _ _ HZ.out) Tryz.underlying330 rfl (ziD _)) rfl ⟨rfl,below_setRow hbel (Nat.le_refl _) _⟩
end Go.Proofs.YthlhgiihngcobaaGreatDoor
namespace Go.Proofs.YthlhgiihngcobaaGreatDoor
open Go.RowKit
structure ziJ(a B:Nat)(w w':World):Prop where
 os:w'.os=w.os
 tape:w'.tape=w.tape
 output:w'.output=w.output
 size:w.heap.size<=w'.heap.size
 block:∀k,k<B->k≠a->w'.heap[k]? = w.heap[k]?
theorem ziJ.refl(a B:Nat)(w:World):ziJ a B w w:=⟨rfl,rfl,rfl,Nat.le_refl _,fun _ _ _=>rfl⟩
theorem ziJ.trans{a B:Nat}{w w1 w2:World}(h:ziJ a B w w1)(k:ziJ a B w1 w2):ziJ a B w w2 :=⟨k.os.trans h.os,k.tape.trans h.tape,k.output.trans h.output,Nat.le_trans h.size k.size,fun j h1 h2=>(k.block j h1 h2).trans (h.block j h1 h2)⟩
theorem ziJ.mono{a B C:Nat}{w w1:World}(h:ziJ a B w w1)(hC:C<=B):ziJ a C w w1:=⟨h.os,h.tape,h.output,h.size,fun k h1 h2=>h.block k (by omega) h2⟩
theorem ziJ.set{a B:Nat}{w w1:World}(h:ziJ a B w w1)(o:Nat)(v:Value):ziJ a B w (w1.setCell ⟨a,o,none⟩ v) :=⟨h.os,h.tape,h.output,by simpa using h.size,fun k h1 h2=>(Below.heap_setCell w1 ⟨a,o,none⟩ v k h2).trans (h.block k h1 h2)⟩
theorem ziJ.below{a B:Nat}{w w1:World}(h:ziJ a B w w1){C:Nat}(hC:C<=B)(ha:C<=a):Below C w w1:=⟨h.os,h.tape,h.output,h.size,fun k hk=>h.block k (by omega) (by omega)⟩
theorem ziJ.cell{a B:Nat}{w w1:World}(h:ziJ a B w w1){p:Addr}(hp:p.block<B)(ha:p.block≠a):w1.cell? p=w.cell? p:=World.cell?_of_block (h.block _ hp ha)
theorem zbp.past{w w1:World}{b a B:Nat}{s:zbb}(h:zbp w b s)(hp:ziJ a B w w1)(hB:b<B)(ha:b≠a):zbp w1 b s:=(hp.block b hB ha).trans h
theorem store_func{P:Program}(w:World)(f:Fn)(ts cs:Array Value)(old:Value)(T:TypeId)(n:Nat)(hn:n=w.heap.size):(store ⟨n,0,none⟩ (.func f ts cs)).run P (w.alloc (.cells #[old] T))=.ok () (w.alloc (.cells #[.func f ts cs] T)):=by subst hn;rw[run_store _ _ _ _ _ rfl];simp[World.setCell_alloc_new]
end Go.Proofs.YthlhgiihngcobaaGreatDoor
namespace Go.Proofs.YthlhgiihngcobaaGreatDoor
open Go.RowKit
structure zeu(w:World)(p q r:Nat)(m:zbb)(s:zbg):Prop where
 mat:zbp w p m
 row:zao w q 7 s
 fn:w.cell? ⟨r,0,none⟩=some (.func (.func 281) #[] #[.pointer (some ⟨p,0,none⟩),.pointer (some ⟨q,0,none⟩),.pointer (some ⟨r,0,none⟩)])
 pq:p≠q
 rq:r≠q
theorem zeu.past{w w1:World}{p q r B:Nat}{m:zbb}{s s1:zbg}(h:zeu w p q r m s)(hp:ziJ q B w w1)(hB:w.heap.size<=B)(hs:zao w1 q 7 s1):zeu w1 p q r m s1 where
 mat:=h.mat.past hp (Nat.lt_of_lt_of_le h.mat.lt hB) h.pq
 row:=hs
 fn:=by have:=World.block_lt_of_cell? w _ h.fn;rw[hp.cell (p:=⟨r,0,none⟩) (Nat.lt_of_lt_of_le this hB) h.rq];exact h.fn
 pq:=h.pq
 rq:=h.rq
def zkE(n:Nat):Prop:=∀(x:Nat) (s:zbg) (m:zbb) (p q r:Nat) (w:World),x<7->7-zcP s<=n->zeu w p q r m s ->
 Calls Tryz.prog 281 #[.int .i64 x,.pointer (some ⟨p,0,none⟩),.pointer (some ⟨q,0,none⟩),.pointer (some ⟨r,0,none⟩)] w fun e w'=>e=.returned (.tuple #[])/\(∃s',zkA m x 7 s s'/\zao w' q 7 s')/\ziJ q w.heap.size w w'
theorem zAS{s:zbg}{t:Nat}(ht:t<7)(h:s t=false):zcP (zdn s t true)=zcP s+1:=by
 have h1:=zjO (s:=zdn s t true) ht (za6 s t true)
 rw[show zdn (zdn s t true) t false=s from funext fun k=>by
  by_cases e:k=t
  ·rw[e,za6,h]
  ·rw[zaD _ _ e,zaD _ _ e]]at h1
 omega
theorem zmh(f:Nat->Bool)(k:Nat)(h:k<7)(W:World):(Instr.index 194 (.agg #[.bool (f 0),.bool (f 1),.bool (f 2),.bool (f 3),.bool (f 4),.bool (f 5),.bool (f 6)]) (.int .i64 k)).run Tryz.prog W=.ok (.bool (f k)) W:=by rcases(show k=0\/k=1\/k=2\/k=3\/k=4\/k=5\/k=6 by omega)with e | e | e | e | e | e | e <;> subst e <;> kernel_rfl
theorem zsE{s r:zbg}(h:∀y,s y=true->r y=true):zcP s<=zcP r:=by
 have h1:∀y,(s y).toNat<=(r y).toNat:=fun y=>by
  cases hs:s y with
  | false=>simp
  | true=>rw[h y hs];exact Nat.le_refl _
 unfold zcP;have:=h1 0;have:=h1 1;have:=h1 2;have:=h1 3;have:=h1 4;have:=h1 5;have:=h1 6;omega
theorem zre(n:Nat)(ih:∀k,k<n->zkE k):zkE n:=by
 intro x s m p q r w hx hn hv;have IH:Hid (∀k,k<n->zkE k):=ih;have HV:Hid (zeu w p q r m s):=hv;have HN:Hid (7-zcP s<=n):=hn;have hx7:(x:Int)<7:=by omega
 have hrow:∀k,k<7->w.cell? ⟨p,x*7+k,none⟩=some (.bool (m x k)):=fun k hk=>hv.mat.cell hx hk;have c0:=hrow 0 (by omega);rw[Nat.add_zero]at c0;clear ih hv hn;go_enter Tryz.func281,Tryz.ntmps281;go_wp2_with fail
 go_loopw [10] (fun v10 wr=>∃(k:Nat) (sk:zbg),k<=7/\v10=.int .i64 k/\zkA m x k s sk/\zao wr q 7 sk/\ziJ q w.heap.size w wr) (fun v10 _=>7-(intOf v10).toNat)
 case atStart=>exact⟨0,s,by omega,rfl,zkA.start m x s,HV.out.row,ziJ.refl _ _ _⟩
 case round =>
  clear hrow c0;obtain⟨k,sk,hk,rfl,hseen,hs,hpast⟩:=hrel;have HS:Hid (zkA m x k s sk):=hseen;have HB:Hid (zao wr q 7 sk):=hs;have HVK:Hid (zeu wr p q r m sk):=HV.out.past hpast (Nat.le_refl _) hs;clear hseen hs;by_cases hlt:k<7
  ·have hk7:(k:Int)<7:=by omega
   have hidx:∀W,(Instr.index 194 (.agg #[.bool (m x 0),.bool (m x 1),.bool (m x 2),.bool (m x 3),.bool (m x 4),.bool (m x 5),.bool (m x 6)]) (.int .i64 k)).run Tryz.prog W=.ok (.bool (m x k)) W:=fun W=>zmh (m x) k hlt W;obtain⟨c1,z1⟩:=HB.out k hlt;cases hm:m x k with
   | false =>
     rw[hm]at hidx;have HQ:Hid (zkA m x (k+1) s sk):=HS.out.skip (.inl hm);clear hm;go_wp2_with fail;go_roundw
     case rel=>exact⟨k+1,sk,by omega,by go_num,HQ.out,HB.out,hpast⟩
     case measure=>simp[intOf];omega
   | true =>
     rw[hm]at hidx;cases hsk:sk k with
     | true =>
       rw[hsk]at c1;have HQ:Hid (zkA m x (k+1) s sk):=HS.out.skip (.inr hsk);clear hm hsk;go_wp2_with fail;go_roundw
       case rel=>exact⟨k+1,sk,by omega,by go_num,HQ.out,HB.out,hpast⟩
       case measure=>simp[intOf];omega
     | false =>
       rw[hsk]at c1;have HM:Hid (m x k=true):=hm;have HC:Hid (zcP (zdn sk k true)=zcP sk+1):=zAS hlt hsk;have HL:Hid (zcP s<=zcP sk):=zsE HS.out.keep;have h3:=HVK.out.fn;have hrq:=HV.out.rq;have hqr:¬q=r:=fun e=>hrq e.symm;have HSET:Hid (zao (wr.setCell ⟨q,k,none⟩ (.bool true)) q 7 (zdn sk k true)):=HB.out.set true hlt;have HVIS:Hid (zeu (wr.setCell ⟨q,k,none⟩ (.bool true)) p q r m (zdn sk k true)):=HVK.out.past ((ziJ.refl q wr.heap.size wr).set k _) (Nat.le_refl _) HSET.out;have HLT:Hid (7-zcP (zdn sk k true)<n):=by show 7-zcP (zdn sk k true)<n;have:=HC.out;have:=HL.out;have:=HN.out;have:=cnt_le (zdn sk k true);omega
       clear hm hsk;go_wp2_with fail;refine(IH.out _ HLT.out k (zdn sk k true) m p q r _ hlt (Nat.le_refl _) HVIS.out).mono ?_;rintro e w1 ⟨rfl,⟨s',hs',hb'⟩,hp1⟩;go_wp2_with fail;go_roundw
       case rel=>exact⟨k+1,s',by omega,by go_num,HS.out.visit HM.out hs',hb',(hpast.set k _).trans (hp1.mono (by simpa using hpast.size))⟩
       case measure=>simp[intOf];omega
  ·have HQ:Hid (zkA m x 7 s sk):=by have h0:=HS.out;rw[show k=7 by omega]at h0;exact h0
   have hk7:¬(k:Int)<7:=by omega
   go_wp2_with fail;exact⟨rfl,_,by simp[results,Tryz.results281],rfl,⟨sk,HQ.out,HB.out⟩,hpast⟩
theorem zvn(n:Nat):zkE n:=Nat.strongRecOn n zre
theorem znv(w:World)(m:zbb):zeu ((((w.alloc (.cells (cells49 m) 330)).alloc (.cells #[.bool false,.bool false,.bool false,.bool false,.bool false,.bool false,.bool false] 194)).alloc (.cells #[.bool false,.bool false,.bool false,.bool false,.bool false,.bool false,.bool false] 194)).alloc (.cells #[.func (.func 281) #[] #[.pointer (some ⟨w.heap.size,0,none⟩),.pointer (some ⟨w.heap.size+1+1,0,none⟩),.pointer (some ⟨w.heap.size+1+1+1,0,none⟩)]] 258)) w.heap.size (w.heap.size+1+1) (w.heap.size+1+1+1) m (fun _=>false)/\zao ((((w.alloc (.cells (cells49 m) 330)).alloc (.cells #[.bool false,.bool false,.bool false,.bool false,.bool false,.bool false,.bool false] 194)).alloc (.cells #[.bool false,.bool false,.bool false,.bool false,.bool false,.bool false,.bool false] 194)).alloc (.cells #[.func (.func 281) #[] #[.pointer (some ⟨w.heap.size,0,none⟩),.pointer (some ⟨w.heap.size+1+1,0,none⟩),.pointer (some ⟨w.heap.size+1+1+1,0,none⟩)]] 258)) (w.heap.size+1) 7 (fun _=>false)/\Below w.heap.size w ((((w.alloc (.cells (cells49 m) 330)).alloc (.cells #[.bool false,.bool false,.bool false,.bool false,.bool false,.bool false,.bool false] 194)).alloc (.cells #[.bool false,.bool false,.bool false,.bool false,.bool false,.bool false,.bool false] 194)).alloc (.cells #[.func (.func 281) #[] #[.pointer (some ⟨w.heap.size,0,none⟩),.pointer (some ⟨w.heap.size+1+1,0,none⟩),.pointer (some ⟨w.heap.size+1+1+1,0,none⟩)]] 258))/\((((w.alloc (.cells (cells49 m) 330)).alloc (.cells #[.bool false,.bool false,.bool false,.bool false,.bool false,.bool false,.bool false] 194)).alloc (.cells #[.bool false,.bool false,.bool false,.bool false,.bool false,.bool false,.bool false] 194)).alloc (.cells #[.func (.func 281) #[] #[.pointer (some ⟨w.heap.size,0,none⟩),.pointer (some ⟨w.heap.size+1+1,0,none⟩),.pointer (some ⟨w.heap.size+1+1+1,0,none⟩)]] 258)).heap.size=w.heap.size+4:=by
 have h1:zao ((w.alloc (.cells (cells49 m) 330)).alloc (.cells #[.bool false,.bool false,.bool false,.bool false,.bool false,.bool false,.bool false] 194)) (w.heap.size+1) 7 (fun _=>false):=by have:=zcu (w.alloc (.cells (cells49 m) 330)) (fun _=>false) 194;simpa using this
 have h2:zao (((w.alloc (.cells (cells49 m) 330)).alloc (.cells #[.bool false,.bool false,.bool false,.bool false,.bool false,.bool false,.bool false] 194)).alloc (.cells #[.bool false,.bool false,.bool false,.bool false,.bool false,.bool false,.bool false] 194)) (w.heap.size+1+1) 7 (fun _=>false):=by have:=zcu ((w.alloc (.cells (cells49 m) 330)).alloc (.cells #[.bool false,.bool false,.bool false,.bool false,.bool false,.bool false,.bool false] 194)) (fun _=>false) 194;simpa using this
 refine⟨⟨(((zsP w m).alloc _).alloc _).alloc _,h2.alloc _,?_,by omega,by omega⟩,(h1.alloc _).alloc _,((((Below.refl _ w).alloc (Nat.le_refl _) _).alloc (by simp) _).alloc (by simp;omega) _).alloc (by simp;omega) _,by simp⟩;rw[World.cell?_alloc_at _ _ _ _ (by simp)];rfl
theorem reached_any(x:Nat)(m:zbb)(w:World)(hx:x<7):Calls Tryz.prog 277 #[.int .i64 x,.agg (cells49 m)] w fun e w'=>∃s':zbg,e=.returned (.agg #[.bool (s' 0),.bool (s' 1),.bool (s' 2),.bool (s' 3),.bool (s' 4),.bool (s' 5),.bool (s' 6)])/\zkA m x 7 (fun _=>false) s'/\Below w.heap.size w w':=by
 go_enter Tryz.func277,Tryz.ntmps277;go_wp2_with fail;rw[store_func _ _ _ _ _ _ _ (by simp)];go_wp2_with fail;have hst:=znv w m;obtain⟨W0,hW0⟩:∃W0,W0=((((w.alloc (.cells (cells49 m) 330)).alloc (.cells #[.bool false,.bool false,.bool false,.bool false,.bool false,.bool false,.bool false] 194)).alloc (.cells #[.bool false,.bool false,.bool false,.bool false,.bool false,.bool false,.bool false] 194)).alloc (.cells #[.func (.func 281) #[] #[.pointer (some ⟨w.heap.size,0,none⟩),.pointer (some ⟨w.heap.size+1+1,0,none⟩),.pointer (some ⟨w.heap.size+1+1+1,0,none⟩)]] 258)):=⟨_,rfl⟩;rw[<-hW0]at hst ⊢;clear hW0;obtain⟨hv,hz,hbe,hsz⟩:=hst;refine(zvn 7 x (fun _=>false) m _ _ _ W0 hx (by omega) hv).mono ?_;rintro e w1 ⟨rfl,⟨s',hs',hb'⟩,hp1⟩;have HZ:Hid (zao w1 (w.heap.size+1) 7 (fun _=>false)):=fun k hk=>by have hbl:=hp1.block (w.heap.size+1) (by omega) (by omega);rw[World.cell?_of_block (w:=W0) (a:=⟨w.heap.size+1,k,none⟩) hbl,World.frozen?_of_block (w:=W0) (a:=⟨w.heap.size+1,k,none⟩) hbl];exact hz k hk
 have HS:Hid (zkA m x 7 (fun _=>false) s'):=hs';have hb1:Below w.heap.size w w1:=hbe.trans (hp1.below (by omega) (by omega));have hc:∀k,k<7->w1.cell? ⟨w.heap.size+1+1,k,none⟩=some (.bool (s' k)):=fun k hk=>(hb' k hk).1;have hz1:∀k,k<7->w1.cell? ⟨w.heap.size+1,k,none⟩=some (.bool false):=fun k hk=>(HZ.out k hk).1;have hy1:∀k,k<7->w1.frozen? ⟨w.heap.size+1,k,none⟩=false:=fun k hk=>(HZ.out k hk).2;clear hv hz hbe hsz hs' hb' hp1 HZ;go_wp2_with fail;refine bodyPost_ret (v:=.agg #[.bool (s' 0),.bool (s' 1),.bool (s' 2),.bool (s' 3),.bool (s' 4),.bool (s' 5),.bool (s' 6)]) (by simp[results,Tryz.results277,go_sem,hz1]) rfl ⟨s',rfl,HS.out,?_⟩;exact((((((hb1.setCell (by simp) _).setCell (by simp) _).setCell (by simp) _).setCell (by simp) _).setCell (by simp) _).setCell (by simp) _).setCell (by simp) _
end Go.Proofs.YthlhgiihngcobaaGreatDoor
