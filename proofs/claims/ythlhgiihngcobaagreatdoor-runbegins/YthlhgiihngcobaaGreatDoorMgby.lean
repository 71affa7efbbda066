/-
  PROVED HERE: package danger's pivots; package danger; package danger's Run, Edges and Pivots keep what they are asked (RunsC, AntC, PivC); plain facts, with no word of the program.
  Conditions: none but those that each theorem's own premises say.
-/
import Derived.Test.YthlhgiihngcobaaGreatDoorMgbx
import Derived.Test.YthlhgiihngcobaaGreatDoorMgbh
import Derived.Test.YthlhgiihngcobaaGreatDoorMgbw
import Derived.Test.YthlhgiihngcobaaGreatDoorMgaq
import Derived.Test.YthlhgiihngcobaaGreatDoorMgbv
import Derived.Test.YthlhgiihngcobaaGreatDoorMgaj
import Derived.Test.YthlhgiihngcobaaGreatDoorMgau
import Derived.Test.YthlhgiihngcobaaGreatDoorMgbr
import Derived.Test.YthlhgiihngcobaaGreatDoorMgap
import Derived.Test.YthlhgiihngcobaaGreatDoorMgah
set_option maxHeartbeats 32000000
set_option maxRecDepth 100000
namespace Go.Proofs.YthlhgiihngcobaaGreatDoor
open Go.RowKit
def zyc(w:World):Value->Int
 | .pointer (some a)=>intOf ((w.cell? a).getD undef)
 | _=>0
def zpa(w:World)(c:Nat)(x:Int):Prop:=w.heap[c]? = some (.cells #[.int .i64 x] 3)
theorem zpa.cell{w:World}{c:Nat}{x:Int}(h:zpa w c x):w.cell? ⟨c,0,none⟩=some (.int .i64 x):=by rw[cell_of_row w c 0 _ _ (0,0) h];rfl
theorem zpa.lt{w:World}{c:Nat}{x:Int}(h:zpa w c x):c<w.heap.size:=(Array.getElem?_eq_some_iff.1 h).1
theorem zpa.below{w w':World}{c B:Nat}{x:Int}(h:zpa w c x)(hb:Below B w w')(hc:c<B):zpa w' c x:=(hb.block c hc).trans h
theorem zpa.alloc{w:World}{c:Nat}{x:Int}(h:zpa w c x)(o:Obj):zpa (w.alloc o) c x:=h.below ((Below.refl _ w).alloc (Nat.le_refl _) o) h.lt
theorem zhj(w:World)(x:Int):zpa (w.alloc (.cells #[.int .i64 x] 3)) w.heap.size x:=heap_alloc_new w _
theorem zqG(l:List zab)(v:Value)(w:World)(hI:zaj w v l)(hl:l.length<=10000000):Calls Tryz.prog 202 #[v] w fun e w'=>∃v',e=.returned v'/\w'.ownsRow w.heap.size 3 1 v' (zcw l 6).length ((zcw l 6).map (Value.int .i64))/\Below w.heap.size w w':=by
 have HC1:Hid (∀(X:World) (b:Nat) (t:Int),Below w.heap.size w X->X.cell? ⟨b,0,none⟩=some (.int .i64 t)->Calls Tryz.prog 72 #[v,.func (.func 234) #[] #[.pointer (some ⟨b,0,none⟩)]] X fun r w'=>r=.returned (.bool (l.any fun e=>e.2 == t))/\Below X.heap.size X w'):=fun X b t hX hc =>zbA l v (fun e=>e.2 == t) _ _ X zus (hI.below hX (Nat.le_refl _)) (by omega) fun W2 hW2 e _=>zAi e t b W2 ((hW2.cell (p:=⟨b,0,none⟩) (World.block_lt_of_cell? X _ hc)).trans hc);have HC2:Hid (∀(X:World) (b:Nat) (t:Int),Below w.heap.size w X->X.cell? ⟨b,0,none⟩=some (.int .i64 t)->Calls Tryz.prog 72 #[v,.func (.func 235) #[] #[.pointer (some ⟨b,0,none⟩)]] X fun r w'=>r=.returned (.bool (l.any fun e=>e.1 == t))/\Below X.heap.size X w'):=fun X b t hX hc =>zbA l v (fun e=>e.1 == t) _ _ X zsm (hI.below hX (Nat.le_refl _)) (by omega) fun W2 hW2 e _=>zzS e t b W2 ((hW2.cell (p:=⟨b,0,none⟩) (World.block_lt_of_cell? X _ hc)).trans hc);obtain⟨ad,b0,off,cap,rfl,-⟩:=hI;obtain⟨i0,hi,hz0,hs0,hy0⟩:=info_parts zbK;have HI:Hid (Tryz.prog.info? 3=some i0/\i0.zero=some (.int .i64 0)/\i0.size=1/\i0.bytes=8):=⟨hi,hz0,hs0,hy0⟩;obtain⟨m,hm⟩:∃m,l.length=m:=⟨_,rfl⟩;rw[hm]at HC1 HC2 hl;rw[hm];clear hi hz0 hs0 hy0 hm;go_enter Tryz.func202,Tryz.ntmps202;go_wp2_with fail
 go_loopw [3,4] (fun v3 v4 wr=>∃(k b:Nat),k<=6/\v4=.pointer (some ⟨b,0,none⟩)/\zpa wr b ((k:Int)+1)/\wr.ownsRow w.heap.size 3 1 v3 (zcw l k).length ((zcw l k).map (Value.int .i64))/\(∀g,v3.ownBlock=some g->g≠b)/\Below w.heap.size w wr) (fun _ v4 wr=>7-(zyc wr v4).toNat)
 case atStart=>exact⟨0,_,by omega,rfl,by simpa using zhj w 1,World.ownsRow_nil _ _ _ _,fun g hg=>by simp[Value.ownBlock]at hg,(Below.refl _ w).alloc (Nat.le_refl _) _⟩
 case round =>
  obtain⟨k,b,hk,rfl,hbox,hown,hne,hbel⟩:=hrel;have hcell:=hbox.cell;have hbl:=hbox.lt;have HBOX:=zae hbox;have HOWN:=zae hown;have HNE:=zae hne;have HBEL:=zae hbel;have hwl:=zt2 l k;obtain⟨n,hn⟩:∃n,(zcw l k).length=n:=⟨_,rfl⟩;have HN:=zae hn;rw[hn]at hwl HOWN;clear hbox hown hne hn;by_cases hk6:k<6
  ·have hk6':(k:Int)+1<=6:=by omega
   have HD1:=zae (HC1.out wr b _ hbel hcell);obtain⟨p1,hp1⟩:∃p,(l.any fun e=>e.2 == (k:Int)+1)=p:=⟨_,rfl⟩;obtain⟨p2,hp2⟩:∃p,(l.any fun e=>e.1 == (k:Int)+1)=p:=⟨_,rfl⟩;have HQ:Hid (zcw l (k+1)=zcw l k++(if(p1 && p2)=true then[(k:Int)+1]else[])):=by show _=_;rw[zrv];unfold zqz;rw[hp1,hp2]
   have HP2:=zae hp2;rw[hp1]at HD1;clear hp1 hp2;go_wp2_with fail;refine HD1.out.mono ?_;rintro e w1 ⟨rfl,hb1⟩;have HB1:=zae hb1;have c1:=(hb1.cell (p:=⟨b,0,none⟩) hbl).trans hcell;have HD2:=zae (HC2.out w1 b _ (HBEL.out.trans (hb1.mono HBEL.out.size)) c1);rw[HP2.out]at HD2;clear hb1;go_wp2_with fail;refine HD2.out.mono ?_;rintro e wX ⟨rfl,hb2⟩;have hbX0:Below wr.heap.size wr wX:=HB1.out.trans (hb2.mono HB1.out.size);have HOX:Hid (wX.ownsRow w.heap.size 3 1 u3 n ((zcw l k).map (Value.int .i64))):=(zac.of_below (F:=fun _=>False) hbX0).own HOWN.out (fun _ _ hf=>hf);have HBX:Hid (Below w.heap.size w wX):=HBEL.out.trans (hbX0.mono HBEL.out.size);have hboxX:=HBOX.out.below hbX0 hbl;have HBOXX:=zae hboxX;have kX:=hboxX.cell;have hblX:=hboxX.lt;have hVX:=HBX.out.size;clear hb2 hbX0 hboxX c1 HB1 HD1 HD2;cases p1 with
   | true =>
     cases p2 with
     | true =>
       go_wp2_with (at_builtin;refine zbj _ rfl (.tmp 21) (.tmp 23) 24 rfl w.heap.size 3 i0 (.int .i64 0) 1 8 Tryz.underlying24 HI.out.1 HI.out.2.1 HI.out.2.2.1 HI.out.2.2.2 rfl (by decide) u3 n ((zcw l k).map (Value.int .i64)) rfl (HOX.out.alloc _) ⟨wX.heap.size,0,none⟩ 1 1 [.int .i64 ((k:Int)+1)] rfl rfl (cell_one_new _ _ _) (by simp[Value.oneCell']) (by unfold maxLen;omega) (by omega) (by simp;omega) ?_;intro v7 w7 hown7 hgr7 hap7;have j7:w7.cell? ⟨b,0,none⟩=some (.int .i64 ((k:Int)+1)):=(zpa.cell (show zpa w7 b ((k:Int)+1)from(hgr7.block b (by simp;omega) (fun e=>HNE.out b e.symm rfl)).trans (HBOXX.out.alloc _))));have hB7:=(HBX.out.alloc hVX _).grown hgr7 (by simp;omega) (fun g hg=>(HOX.out.lt g hg).1);go_roundw
       case rel=>exact⟨k+1,w7.heap.size,by omega,rfl,by simpa using zhj w7 _,by rw[HQ.out,if_pos (show(true && true)=true from rfl),List.length_append,HN.out,List.map_append];exact hown7.alloc _,fun g hg=>by have:=(hown7.lt g hg).2;omega,hB7.alloc hB7.size _⟩
       case measure=>simp[zyc,intOf,hcell];omega
     | false =>
       go_wp2_with fail;go_roundw
       case rel=>exact⟨k+1,wX.heap.size,by omega,rfl,by simpa using zhj wX _,by rw[HQ.out,if_neg (by decide),List.append_nil,HN.out];exact HOX.out.alloc _,fun g hg=>by have:=(HOX.out.lt g hg).2;omega,HBX.out.alloc HBX.out.size _⟩
       case measure=>simp[zyc,intOf,hcell];omega
   | false =>
     go_wp2_with fail;go_roundw
     case rel=>exact⟨k+1,wX.heap.size,by omega,rfl,by simpa using zhj wX _,by rw[HQ.out,if_neg (by rw[Bool.false_and];decide),List.append_nil,HN.out];exact HOX.out.alloc _,fun g hg=>by have:=(HOX.out.lt g hg).2;omega,HBX.out.alloc HBX.out.size _⟩
     case measure=>simp[zyc,intOf,hcell];omega
  ·have hk6':¬(k:Int)+1<=6:=by omega
   obtain rfl:k=6:=by omega
   go_wp2_with fail;go_ret;exact⟨_,rfl,by rw[HN.out];exact HOWN.out,HBEL.out⟩
end Go.Proofs.YthlhgiihngcobaaGreatDoor
namespace Go.Proofs.YthlhgiihngcobaaGreatDoor
open Go.RowKit
theorem zxK{q:Crs}{ds:List Int}(h:ds.length<=1000):(zr5 q ds).length<=10000000:=by unfold zr5;refine Nat.le_trans (zjI _ _ _) ?_;rw[(zay ds).length_eq];exact Nat.le_trans (Nat.mul_le_mul h h) (by decide)
theorem zvr(hSort:ziV){w0 w:World}{R:Nat}{S F:Value}{q:Crs}{c:zbZ}(h:zaq w0 w R S F q c)(hq:zaR 999 q){t:Int}(h1:1<=t)(h6:t<=6)(hb:(q.began t).isSome=true):Calls Tryz.prog 159 #[.pointer (some ⟨R,0,none⟩),.int .i64 t] w fun e w'=>e=.returned (.bool (decide (0<(zcw (zr5 q (q.done++[t])) 6).length)))/\Below w.heap.size w w':=by
 have HDN:=zae (zpI h (by have:=hq.lenD;omega));have hlen:(q.done++[t]).length<=1000:=by have:=hq.lenD;rw[List.length_append,List.length_singleton];omega
 have HE:Hid (∀W,Below w.heap.size w W->∀v,zaf W v (q.done++[t])->Calls Tryz.prog 203 #[.pointer (some ⟨R,0,none⟩),v] W fun e w'=>∃v',e=.returned v'/\zaj w' v' (zr5 q (q.done++[t]))/\Below W.heap.size W w'):=fun W hW v hv =>
  zxp hSort (h.below hW) hq.more _ v hv hlen fun x hx=>by
   rcases List.mem_append.1 hx with hx | hx
   ·exact⟨(hq.six x hx).1,(hq.six x hx).2,hq.begs x hx⟩
   ·rw[List.mem_singleton.1 hx];exact⟨h1,h6,hb⟩
 have HEL:=zae (zxK (q:=q) hlen);obtain⟨i0,hi,hz0,hs0,hy0⟩:=info_parts zbK;have HI:Hid (Tryz.prog.info? 3=some i0/\i0.zero=some (.int .i64 0)/\i0.size=1/\i0.bytes=8):=⟨hi,hz0,hs0,hy0⟩;have hdl:=hq.lenD;obtain⟨n,hn⟩:∃n,q.done.length=n:=⟨_,rfl⟩;have HN:=zae hn;rw[hn]at HDN hdl;obtain⟨E,hE⟩:∃E,zr5 q (q.done++[t])=E:=⟨_,rfl⟩;rw[hE]at HE HEL ⊢;obtain⟨m,hm⟩:∃m,(zcw E 6).length=m:=⟨_,rfl⟩;rw[hm];have HM:=zae hm;clear h hq h1 h6 hb hi hz0 hs0 hy0 hn hE hlen hSort hm;go_enter Tryz.func159,Tryz.ntmps159;go_wp2_with fail;refine HDN.out.mono ?_;rintro e w1 ⟨v1,rfl,ho1,hb1⟩;have HO1:=zae ho1;have HB1:=zae hb1;have hsz1:=hb1.size;obtain⟨ad1,c1,rfl,-⟩:=zad ho1;clear ho1 hb1;go_wp2_with (at_builtin;refine wpList_append_own _ rfl (.tmp 7) (.tmp 9) 24 rfl w.heap.size 3 i0 (.int .i64 0) 1 8 Tryz.underlying24 HI.out.1 HI.out.2.1 HI.out.2.2.1 HI.out.2.2.2 rfl (by decide) (.slice ad1 n c1) n (q.done.map (Value.int .i64)) rfl (HO1.out.alloc _) ⟨w1.heap.size,0,none⟩ 1 1 [.int .i64 t] rfl rfl (cell_one_new _ _ _) (by simp[Value.oneCell']) (by unfold maxLen;omega) (by omega) (by simp;omega) ?_;intro v2 w2 hown2 hgr2 hnil2;obtain⟨g2,cap2,rfl⟩:=ownsRow_succ hown2);have hB2:=(HB1.out.alloc hsz1 _).grown hgr2 (by simp;omega) (fun k hk=>(HO1.out.lt k hk).1);have HB2:=zae hB2;have HI2:Hid (zaf w2 (.slice (some ⟨g2,0,none⟩) (n+1) cap2) (q.done++[t])):=zap (base:=w.heap.size) (e:=3) (by rw[List.map_append];exact hown2) (by rw[List.length_append,List.length_singleton,HN.out]);have HEE:=zae (HE.out w2 hB2 _ HI2.out);clear hown2 hgr2 hnil2 hB2;refine HEE.out.mono ?_;rintro e w3 ⟨v3,rfl,hi3,hb3⟩;have HPP:=zae (zqG E v3 w3 hi3 HEL.out);have HB3:Hid (Below w.heap.size w w3):=HB2.out.trans (hb3.mono HB2.out.size);obtain⟨ad3,n3,c3,rfl⟩:∃d n p,v3=.slice d n p:=by obtain⟨a,_,_,c,h,_⟩:=hi3;exact⟨a,_,c,h⟩
 clear hi3 hb3;go_wp2_with fail;refine HPP.out.mono ?_;rintro e w4 ⟨v4,rfl,ho4,hb4⟩;have HB4:Hid (Below w.heap.size w w4):=HB3.out.trans (hb4.mono HB3.out.size);rw[HM.out]at ho4;obtain⟨ad4,c4,rfl,-⟩:=zad ho4;clear ho4 hb4;by_cases h0:0<m
 ·have h0':(0:Int)<(m:Int):=by omega
  go_wp2_with fail;go_ret;exact⟨by rw[decide_eq_true h0];rfl,HB4.out⟩
 ·have h0':¬(0:Int)<(m:Int):=by omega
  go_wp2_with fail;go_ret;exact⟨by rw[decide_eq_false h0];rfl,HB4.out⟩
theorem zrm:zbB 158:=fun _ _=>by kernel_rfl
def zme(P:Nat)(w:World):Prop:=w.cell? ⟨P,0,none⟩=some (.func (.func 157) #[] #[])
theorem zme.below{P:Nat}{w w':World}(h:zme P w)(hb:Below w.heap.size w w'):zme P w':=(hb.cell (p:=⟨P,0,none⟩) (World.block_lt_of_cell? w _ h)).trans h
theorem zAt(hSort:ziV)(P:Nat):zn5 (zme P) 158 #[] #[.pointer (some ⟨P,0,none⟩)] zg1:=by
 intro w0 w R S F q c t hK h hq h1 h6 hb;rw[Array.empty_append];have k0:w.cell? ⟨P,0,none⟩=some (.func (.func 157) #[] #[]):=(h.old.cell (p:=⟨P,0,none⟩) (World.block_lt_of_cell? w0 _ hK)).trans hK;have HS:=zae (zvL w0 w R S F q c t h hq.more h1 h6 hb);have HD:Hid (∀W,Below w.heap.size w W->Calls Tryz.prog 159 #[.pointer (some ⟨R,0,none⟩),.int .i64 t] W fun e w'=>e=.returned (.bool (decide (0<(zcw (zr5 q (q.done++[t])) 6).length)))/\Below W.heap.size W w'):=fun W hW=>zvr hSort (h.below hW) hq h1 h6 hb;unfold zg1;have hcall:=zmJ;obtain⟨r,hr⟩:∃r,decide (0<(zcw (zr5 q (q.done++[t])) 6).length)=r:=⟨_,rfl⟩;rw[hr]at HD ⊢;clear h hq h1 h6 hb hr hK hSort;cases hs:zfc q t with
 | true =>rw[hs]at HS;go_enter Tryz.func158,Tryz.ntmps158;go_wp2_with fail;refine HS.out.mono ?_;rintro e w1 ⟨rfl,hb1⟩;go_wp2_with fail;go_ret;exact⟨rfl,hb1⟩
 | false =>rw[hs]at HS;go_enter Tryz.func158,Tryz.ntmps158;go_wp2_with fail;refine HS.out.mono ?_;rintro e w1 ⟨rfl,hb1⟩;have HB1:=zae hb1;clear hb1;go_wp2_with fail;refine(HD.out w1 HB1.out).mono ?_;rintro e w2 ⟨rfl,hb2⟩;have HB2:Hid (Below w.heap.size w w2):=HB1.out.trans (hb2.mono HB1.out.size);clear hb2;go_wp2_with fail;go_ret;exact⟨rfl,HB2.out⟩
theorem ztF(w:World):Calls Tryz.prog 92 #[] w fun e w'=>∃P,e=.returned (.agg #[.func (.func 156) #[] #[],.func (.func 158) #[] #[.pointer (some ⟨P,0,none⟩)]])/\zme P w'/\Below w.heap.size w w':=by
 obtain⟨W0,hW0⟩:∃W,W=w.alloc (.cells #[.nilFunc,.nilFunc] 165):=⟨_,rfl⟩;have hb0:Below w.heap.size w W0:=by rw[hW0];exact(Below.refl _ w).alloc (Nat.le_refl _) _
 have HB0:=zae hb0;have kz:W0.heap[w.heap.size]? = some (.cells #[.nilFunc,.nilFunc] 165 (0,0)):=by rw[hW0];exact World.alloc_heap_new w _
 have HKZ:=zae kz;have hsz:W0.heap.size=w.heap.size+1:=by rw[hW0];simp
 have HSZ:=zae hsz;have HRL:=zae (zo6 W0);clear hb0 kz hsz;go_enter Tryz.func92,Tryz.ntmps92
 go_upto_region 1 with(fail)
 rw[<-hW0];obtain⟨Z,hZ⟩:∃Z,Z=w.heap.size:=⟨_,rfl⟩;rw[<-hZ]at HKZ ⊢;have HZZ:Hid (Z<W0.heap.size/\w.heap.size<=Z):=by have:=HSZ.out;exact⟨by omega,by omega⟩
 clear hW0 hZ;go_wp2_with fail;refine HRL.out.mono ?_;rintro e w1 ⟨rfl,hb1⟩;have hz1:=(hb1.block Z HZZ.out.1).trans HKZ.out;have hZ1:Z<w1.heap.size:=Nat.lt_of_lt_of_le HZZ.out.1 hb1.size;have z0:w1.cell? ⟨Z,0,none⟩=some .nilFunc:=by rw[cell_of_row w1 Z _ _ _ _ hz1];rfl
 have z1:w1.cell? ⟨Z,1,none⟩=some .nilFunc:=by rw[cell_of_row w1 Z _ _ _ _ hz1];rfl
 have y0:w1.frozen? ⟨Z,0,none⟩=false:=by simp[World.frozen?,hz1]
 have y1:w1.frozen? ⟨Z,1,none⟩=false:=by simp[World.frozen?,hz1]
 have HB1:=zae hb1;clear hb1;go_wp2_with fail;obtain⟨P,hP⟩:∃P,w1.heap.size+1=P:=⟨_,rfl⟩;rw[hP];obtain⟨X,hX⟩:∃X,X=(w1.setCell ⟨Z,0,none⟩ (.func (.func 156) #[] #[])).setCell ⟨Z,1,none⟩ (.func (.func 158) #[] #[.pointer (some ⟨P,0,none⟩)]):=⟨_,rfl⟩;have hXs:X.heap.size=w1.heap.size:=by rw[hX];simp
 have hXz:X.heap[Z]? = some (.cells #[.func (.func 156) #[] #[],.func (.func 158) #[] #[.pointer (some ⟨P,0,none⟩)]] 165 (0,0)):=by rw[hX,za9 (za9 hz1)];rfl
 have hXb:Below w.heap.size w X:=by rw[hX];have h1:Below w.heap.size w w1:=HB0.out.trans (HB1.out.mono HB0.out.size);exact(h1.setCell (p:=⟨Z,0,none⟩) HZZ.out.2 _).setCell (p:=⟨Z,1,none⟩) HZZ.out.2 _
 rw[<-hX];obtain⟨Y,hY⟩:∃Y,Y=(X.alloc (.cells #[.func (.func 156) #[] #[],.func (.func 158) #[] #[.pointer (some ⟨P,0,none⟩)]] 165)).alloc (.cells #[.func (.func 157) #[] #[]] 163):=⟨_,rfl⟩;rw[<-hY];have hbY:Below X.heap.size X Y:=by rw[hY];exact((Below.refl _ X).alloc (Nat.le_refl _) _).alloc (by simp) _
 have hYz:=(hbY.block Z (by rw[hXs];exact hZ1)).trans hXz;have hYk:zme P Y:=by unfold zme;have:=(Boxed.new (X.alloc (.cells #[.func (.func 156) #[] #[],.func (.func 158) #[] #[.pointer (some ⟨P,0,none⟩)]] 165)) 163 (.func (.func 157) #[] #[])).cell;rw[World.size_alloc,hXs,hP]at this;rw[hY];exact this
 exact bodyPost_ret (v:=.agg #[.func (.func 156) #[] #[],.func (.func 158) #[] #[.pointer (some ⟨P,0,none⟩)]]) (results_cell_row Tryz.results92 _ _ Z 165 #[.func (.func 156) #[] #[],.func (.func 158) #[] #[.pointer (some ⟨P,0,none⟩)]] (0,0) _ rfl hYz Tryz.underlying165 rfl ziu) rfl ⟨P,rfl,hYk,hXb.trans (hbY.mono hXb.size)⟩
theorem outD(l:List Op3):outU 3 zpZ false l=((if(chk l).2=0 then(runQ seesS zg1 l l.length).done else[],if(chk l).2=0 then(runQ seesS zg1 l l.length).done.flatMap (runQ seesS zg1 l l.length).read else[],if(chk l).2=0 then zit (runQ seesS zg1 l l.length) 6 else[]),(chk l).2):=by
 by_cases hc:(chk l).2=0
 ·rw[if_pos hc,if_pos hc,if_pos hc,znV zBr hc,hc];rfl
 ·rw[if_neg hc,if_neg hc,if_neg hc,zfK hc]
theorem zoo(hSort:ziV):znm 35 3 zpZ false:=by
 intro l v w hI;rw[outD];have HRC:Hid (∀W P,Below w.heap.size w W->zme P W->_):=fun W P hW hP=>zmW zgS zrm zsC (zAt hSort P) l v W (fun W2 hW2=>hP.below hW2) (hI.below hW (Nat.le_refl _));obtain⟨A,hA⟩:∃A,(if(chk l).2=0 then(runQ seesS zg1 l l.length).done else[])=A:=⟨_,rfl⟩;obtain⟨B,hB⟩:∃B,(if(chk l).2=0 then(runQ seesS zg1 l l.length).done.flatMap (runQ seesS zg1 l l.length).read else[])=B:=⟨_,rfl⟩;obtain⟨C,hC⟩:∃C,(if(chk l).2=0 then zit (runQ seesS zg1 l l.length) 6 else[])=C:=⟨_,rfl⟩;obtain⟨er,her⟩:∃e,zeH (chk l).2=e:=⟨_,rfl⟩
 have HER:Hid (er=.nilIface\/∃n,er=.iface 80 (.int .i64 n)):=by
  show _\/_;rw[<-her];unfold zeH;split
  ·exact .inl rfl
  ·exact .inr ⟨_,rfl⟩
 rw[hA,hB,hC,her]at HRC;simp only;rw[hA,hB,hC,her];obtain⟨ad,b,off,cap,rfl,-⟩:=hI;obtain⟨W0,hW0⟩:∃W,W=w.alloc (.cells #[.slice none 0 0,.slice none 0 0,.slice none 0 0] 77):=⟨_,rfl⟩;have hb0:Below w.heap.size w W0:=by rw[hW0];exact(Below.refl _ w).alloc (Nat.le_refl _) _
 have HB0:=zae hb0;have kz:W0.heap[w.heap.size]? = some (.cells #[.slice none 0 0,.slice none 0 0,.slice none 0 0] 77 (0,0)):=by rw[hW0];exact World.alloc_heap_new w _
 have HKZ:=zae kz;have hsz:W0.heap.size=w.heap.size+1:=by rw[hW0];simp
 have HSZ:=zae hsz;have HRL:=zae (ztF W0);clear hA hB hC her hb0 kz hsz hSort;go_enter Tryz.func35,Tryz.ntmps35
 go_upto_region 1 with(fail)
 rw[<-hW0];obtain⟨Z,hZ⟩:∃Z,Z=w.heap.size:=⟨_,rfl⟩;rw[<-hZ]at HKZ ⊢;have HZZ:Hid (Z<W0.heap.size/\w.heap.size<=Z):=by have:=HSZ.out;exact⟨by omega,by omega⟩
 clear hW0 hZ;go_wp2_with fail;refine HRL.out.mono ?_;rintro e w2 ⟨P,rfl,hkp,hb2⟩;have HB2:=zae hb2;have HCK:=zae (HRC.out w2 P (HB0.out.trans (hb2.mono HB0.out.size)) hkp);clear hb2 hkp;go_wp2_with fail;refine HCK.out.mono ?_;rintro e w5 ⟨a1,a2,a3,rfl,hi1,hi2,hi3,hr,hb6⟩;have hb5:Below W0.heap.size W0 w5:=HB2.out.trans (hb6.mono HB2.out.size);have hz5:=(hb5.block Z HZZ.out.1).trans HKZ.out;have HF5:=zae (zyU hz5 HZZ.out.2 (HB0.out.trans (hb5.mono HB0.out.size)) (u1:=a1) (u2:=a2) (u3:=a3) hi1 hi2 hi3);have HRR:=zae hr;have z0:w5.cell? ⟨Z,0,none⟩=some (.slice none 0 0):=by rw[cell_of_row w5 Z _ _ _ _ hz5];rfl
 have z1:w5.cell? ⟨Z,1,none⟩=some (.slice none 0 0):=by rw[cell_of_row w5 Z _ _ _ _ hz5];rfl
 have z2:w5.cell? ⟨Z,2,none⟩=some (.slice none 0 0):=by rw[cell_of_row w5 Z _ _ _ _ hz5];rfl
 have y0:w5.frozen? ⟨Z,0,none⟩=false:=by simp[World.frozen?,hz5]
 have y1:w5.frozen? ⟨Z,1,none⟩=false:=by simp[World.frozen?,hz5]
 have y2:w5.frozen? ⟨Z,2,none⟩=false:=by simp[World.frozen?,hz5]
 obtain⟨d1,n1,p1,x1⟩:∃d n p,a1=.slice d n p:=by obtain⟨a,_,_,c,h,_⟩:=hi1;exact⟨a,_,c,h⟩
 obtain⟨d2,n2,p2,x2⟩:∃d n p,a2=.slice d n p:=by obtain⟨a,_,_,c,h,_⟩:=hi2;exact⟨a,_,c,h⟩
 obtain⟨d3,n3,p3,x3⟩:∃d n p,a3=.slice d n p:=by obtain⟨a,_,_,c,h,_⟩:=hi3;exact⟨a,_,c,h⟩
 subst x1 x2 x3;clear hi1 hi2 hi3 hr hb5 hb6 hz5;rcases HER.out with rfl | ⟨ne,rfl⟩
 ·go_wp2_with fail;exact bodyPost_ret (v:=.tuple #[.agg #[.slice d1 n1 p1,.slice d2 n2 p2,.slice d3 n3 p3],.nilIface]) (zaZ Tryz.results35 _ _ Z 77 #[.slice d1 n1 p1,.slice d2 n2 p2,.slice d3 n3 p3] (0,0) _ .nilIface rfl rfl HF5.out.1 Tryz.underlying77 rfl zaL) rfl ⟨_,_,_,rfl,HF5.out.2.1,HF5.out.2.2.1,HF5.out.2.2.2.1,HRR.out,HF5.out.2.2.2.2⟩
 ·go_wp2_with fail;exact bodyPost_ret (v:=.tuple #[.agg #[.slice d1 n1 p1,.slice d2 n2 p2,.slice d3 n3 p3],.iface 80 (.int .i64 ne)]) (zaZ Tryz.results35 _ _ Z 77 #[.slice d1 n1 p1,.slice d2 n2 p2,.slice d3 n3 p3] (0,0) _ (.iface 80 (.int .i64 ne)) rfl rfl HF5.out.1 Tryz.underlying77 rfl zaL) rfl ⟨_,_,_,rfl,HF5.out.2.1,HF5.out.2.2.1,HF5.out.2.2.2.1,HRR.out,HF5.out.2.2.2.2⟩
end Go.Proofs.YthlhgiihngcobaaGreatDoor
namespace Go.Proofs.YthlhgiihngcobaaGreatDoor
theorem zB7:ziV:=fun zs v base n w hn hl h=>sort_own zs v base n w hn hl h
theorem zAl:znm 35 3 zpZ false:=zoo zB7
end Go.Proofs.YthlhgiihngcobaaGreatDoor
namespace Go.Proofs.YthlhgiihngcobaaGreatDoor
def lessQ(q:Crs)(t:Int):List Int:=(sortI q.done).filter fun x=>!decide (t<=x)
def seesN(q:Crs)(t item:Int):Int:=lastQ q.wrote (lessQ q t) item
def zot(q:Crs)(t:Int)(x:Op3):Bool:=decide (x.2.2<t) && inB (q.wrote t) x.2.1
def zvj(q:Crs)(t o:Int):Bool:=decide (t<o) && (q.read o).any (zot q t)
def zf3(ds:List Int)(q:Crs)(t:Int):Bool:=ds.any (zvj q t)
theorem zhN{ds:List Int}(hn:ds.Nodup):(sortI ds).Pairwise (· < ·):=by have h2:(sortI ds).Nodup:=(zay ds).nodup_iff.2 hn;exact((zcU ds).and h2).imp fun {a b} hab=>by omega
theorem zqh{ds:List Int}(hn:ds.Nodup)(h6:∀t∈ds,1<=t/\t<=6):zjP ds=sortI ds :=zd8 _ _ (zql ds) (zhN hn) fun x=>by rw[zsi h6,(zay ds).mem_iff]
structure zAU(l:List Op3)(s:Kst):Prop where
 seen:∀e∈s.looks,e∈(s.of e.1).seen/\s.beg e.1=true
 begs:∀t,s.beg t=true->zgD l t=true
theorem lkIn_step{l:List Op3}{s:Kst}(h:zAU l s){k:Nat}(hk:k<l.length):zAU l (zeR 4 okN s k (opAt l k)):=by
 have hme:zgD l (opAt l k).1=true:=List.any_eq_true.2 ⟨opAt l k,zal hk,by simp⟩;obtain⟨⟨t,a,i⟩,ho⟩:∃o,opAt l k=o:=⟨_,rfl⟩;rw[ho]at hme ⊢;simp only at hme
 have hbg:∀u,setF s.beg t true u=true->zgD l u=true:=fun u hu=>by
  by_cases e:u=t
  ·subst e;exact hme
  ·rw[zaa _ _ e]at hu;exact h.begs u hu
 have now:∀e∈s.looks,e.1=t->e∈(nowK s k t).seen:=fun e he e1=>by have:=h.seen e he;rw[e1]at this;unfold nowK;rw[if_pos this.2];exact this.1
 have key:∀(r:Dl) (e:Op3),e∈s.looks->(∀e∈(nowK s k t).seen,e∈r.seen)->e∈(setF s.of t r e.1).seen/\setF s.beg t true e.1=true:=fun r e he hr=>by
  by_cases e1:e.1=t
  ·have:=hr e (now e he e1);rw[e1,setF_same,setF_same];exact⟨this,rfl⟩
  ·rw[zaa _ _ e1,zaa _ _ e1];exact h.seen e he
 have stay:zAU l (zaJ s k t):=⟨fun e he=>key _ e he fun _ h=>h,hbg⟩;unfold zeR;simp only;split
 ·refine⟨fun e he=>?_,hbg⟩;have he':e∈(if(4:Int)=4/\inB (nowK s k t).wrote i=false then s.looks++[(t,i,fromK 4 s k (nowK s k t) t i)]else s.looks):=he
  have hin:e∈s.looks\/e=(t,i,fromK 4 s k (nowK s k t) t i):=by
   split at he'
   ·rcases List.mem_append.1 he' with h2 | h2
    ·exact .inl h2
    ·exact .inr (List.mem_singleton.1 h2)
   ·exact .inl he'
  show e∈(setF s.of t { nowK s k t with seen:=(nowK s k t).seen++[(t,i,fromK 4 s k (nowK s k t) t i)] } e.1).seen/\setF s.beg t true e.1=true;rcases hin with h2 | h2
  ·exact key _ e h2 fun x hx=>List.mem_append_left _ hx
  ·rw[h2];simp only;rw[setF_same,setF_same];exact⟨List.mem_append_right _ (List.mem_singleton.2 rfl),rfl⟩
 ·split
  ·exact⟨fun e he=>key _ e he fun _ h=>h,hbg⟩
  ·split
   ·split
    ·exact⟨fun e he=>key _ e he fun _ h=>h,hbg⟩
    ·exact stay
   ·exact stay
theorem zxc(l:List Op3):∀k,k<=l.length->zAU l (runK 4 okN l k):=by
 intro k
 induction k with
 | zero=>intro _;exact⟨fun _ h=>(by cases h),fun _ h=>(by cases h)⟩
 | succ k ih=>intro hk;exact lkIn_step (ih (by omega)) (by omega)
theorem zyJ{l:List Op3}(hc:(chk l).2=0):ziy l 4 okN seesN (zf3 (zas l)):=by
 intro k s q t hkl hsr hK h h1 hnd ht1 ht6;have hLk:zAU l s:=by rw[hsr];exact zxc l k hkl
 have hNk:zpj s:=by rw[hsr];exact zz1 hc k hkl
 have hof:(zaJ s k t).of t=nowK s k t:=by show setF s.of t _ t=_;exact setF_same ..
 have e2:q.wrote=fun t=>(s.of t).wrote:=funext h.wrote;have hpos:∀u∈s.done,1<=u:=fun u hu=>(hK.comm u hu).2.1;constructor
 ·intro item;unfold seesN seeK lessQ;rw[if_neg (by decide),if_pos rfl,zbI,zb7,h.done,zsa ht1 (fun i hi=>(hK.comm i hi).2.2.2.2.1)];have hr:((sortI s.done).filter fun x=>!decide (t<=x)).Pairwise (· < ·):=(zhN hK.once).sublist (List.filter_sublist ..);have hm:∀u,u∈((sortI s.done).filter fun x=>!decide (t<=x))↔u∈s.done/\u<t:=fun u=>by rw[List.mem_filter,(zay s.done).mem_iff];simp
  have h3:=ztY s.of item hr fun u hu=>hpos u ((hm u).1 hu).1;have h4:zsh (fun u=>u∈s.done/\u<t/\inB (s.of u).wrote item=true) (lastK s.of ((sortI s.done).filter fun x=>!decide (t<=x)) item) :=⟨h3.1.imp id fun⟨a,b⟩=>⟨((hm _).1 a).1,((hm _).1 a).2,b⟩,fun u ⟨a,b,c⟩=>h3.2 u ⟨(hm u).2 ⟨a,b⟩,c⟩⟩;have h5:=zwq (fun u hu=>hpos u hu.1) h4 (zwK s.done s.of item t);rw[<-h5];unfold lastQ lastK;rw[e2]
 ·have hne:∀o,t<o->(begQ q t).read o=(s.of o).seen:=fun o ho=>by
   rw[zht];exact h.read o
  unfold zf3 okN zrd;rw[Bool.not_not,Bool.eq_iff_iff];simp only[List.any_eq_true];have hw:(begQ q t).wrote t=(nowK s k t).wrote:=by rw[h1.wrote t,hof]
  constructor
  ·rintro⟨o,ho,hl⟩;unfold zvj at hl;rw[Bool.and_eq_true,decide_eq_true_eq]at hl;obtain⟨hto,hl⟩:=hl;obtain⟨x,hx,hlx⟩:=List.any_eq_true.1 hl;rw[hne o hto]at hx;unfold zot at hlx;rw[Bool.and_eq_true,decide_eq_true_eq,hw]at hlx
   have hb:s.beg o=true:=by
    cases hbo:s.beg o with
    | true=>rfl
    | false =>have h0:=h.beg o;rw[hbo]at h0;have:=zpJ 4 okN l k o (by rw[<-hsr];exact hbo);rw[<-hsr]at this;rw[this]at hx;cases hx
   have hx1:=hK.txs o hb x hx;exact⟨x,hNk.look o hb x hx (by omega),by rw[hlx.2,hx1];simp[hto,hlx.1]⟩
  ·rintro⟨x,hx,hxx⟩;rw[Bool.and_eq_true,Bool.and_eq_true,decide_eq_true_eq,decide_eq_true_eq]at hxx;obtain⟨a,b,c⟩:=hxx;obtain⟨d1,d2⟩:=hLk.seen x hx;have h7:=hLk.begs _ d2;obtain⟨o,ho,hoo⟩:=List.any_eq_true.1 h7;have h8:=za1 (((zbq l).1 hc).2.1 o ho);have e8:o.1=x.1:=by simpa using hoo
   refine⟨x.1,zbc.2 ⟨by omega,by omega,h7⟩,?_⟩;unfold zvj;rw[Bool.and_eq_true,decide_eq_true_eq];refine⟨b,List.any_eq_true.2 ⟨x,by rw[hne _ b];exact d1,?_⟩⟩;unfold zot;rw[Bool.and_eq_true,decide_eq_true_eq,hw];exact⟨c,a⟩
theorem zxh{l:List Op3}(hc:(chk l).2=0):outU 4 okN true l=((sortI (runQ seesN (zf3 (zas l)) l l.length).done,(sortI (runQ seesN (zf3 (zas l)) l l.length).done).flatMap (runQ seesN (zf3 (zas l)) l l.length).read,(List.range 6).map fun i:Nat=>lastQ (runQ seesN (zf3 (zas l)) l l.length).wrote (sortI (runQ seesN (zf3 (zas l)) l l.length).done) ((i:Int)+1)),0):=by
 have h:=zyt true (zyJ hc) hc;have hf:=zuX (zyJ hc) hc l.length (Nat.le_refl _);have hK:=zhS 4 okN hc l.length (Nat.le_refl _);have e:zom true (runQ seesN (zf3 (zas l)) l l.length).done=sortI (runQ seesN (zf3 (zas l)) l l.length).done:=by show(if true=true then zjP _ else _)=_;rw[if_pos rfl,hf.done];exact zqh hK.once fun t ht=>⟨(hK.comm t ht).2.1,(hK.comm t ht).2.2.1⟩
 rw[e]at h;exact h
end Go.Proofs.YthlhgiihngcobaaGreatDoor
