/-
  PROVED HERE: package snap's two rules, as package course calls them; what a run of package course (as it lies in memory) answers when it is asked whether a deal had committed; plain facts, with no word of the program; nothing yet.
  Conditions: none but those that each theorem's own premises say.
-/
import Derived.Test.YthlhgiihngcobaaGreatDoorMgbu
import Derived.Test.YthlhgiihngcobaaGreatDoorMgbv
import Derived.Laws.EntriesVeiled
import Derived.Test.YthlhgiihngcobaaGreatDoorMgbs
import Derived.Test.YthlhgiihngcobaaGreatDoorMgaq
import Derived.Test.YthlhgiihngcobaaGreatDoorMgaj
import Derived.Test.YthlhgiihngcobaaGreatDoorMgah
set_option maxHeartbeats 32000000
set_option maxRecDepth 100000
namespace Go.Proofs.YthlhgiihngcobaaGreatDoor
open Go.RowKit
theorem zsC:zk7 156 seesS:=by
 intro w0 w R S F q c t item h hq h1 h6 hb;obtain⟨n,hn⟩:=Option.isSome_iff_exists.1 hb;have HC:=zae (ziO h hq h1 h6 hn item);have e0:seesS q t item=lastQ q.wrote (q.done.take n) item:=by unfold seesS;rw[hn];rfl
 rw[e0];clear h hq h1 h6 hb hn e0;go_enter Tryz.func156,Tryz.ntmps156;go_wp2_with (go_at_call 198;refine HC.out.mono ?_;rintro e w1 ⟨rfl,hb1⟩);go_ret;exact⟨rfl,hb1⟩
theorem zxa{w0 w:World}{R:Nat}{S F:Value}{q:Crs}{c:zbZ}(h:zaq w0 w R S F q c)(hq:zaR 1000 q)(o i:Int)(ho1:1<=o)(ho6:o<=6)(P1 P2:Nat)(k1:w.cell? ⟨P1,0,none⟩=some (.pointer (some ⟨R,0,none⟩)))(k2:w.cell? ⟨P2,0,none⟩=some (.int .i64 o)):Calls Tryz.prog 201 (#[.int .i64 i] ++ #[.pointer (some ⟨P1,0,none⟩),.pointer (some ⟨P2,0,none⟩)]) w fun e w'=>e=.returned (.bool (inB (q.wrote o) i))/\Below w.heap.size w w':=by have HC:=zae (zde h ho1 ho6 i (hq.lenW _));clear h hq;go_enter Tryz.func201,Tryz.ntmps201;go_wp2_with (go_at_call 155;refine HC.out.mono ?_;rintro e w1 ⟨rfl,hw1⟩;rw[hw1];clear hw1);go_ret;exact⟨rfl,Below.refl _ w⟩
theorem zpV:zbB 201:=fun args W=>by kernel_rfl
theorem zrr:zbB 200:=fun args W=>by kernel_rfl
theorem zxt{w0 w:World}{R:Nat}{S F:Value}{q:Crs}{c:zbZ}(h:zaq w0 w R S F q c)(hq:zaR 1000 q)(o:Int)(ho1:1<=o)(ho6:o<=6)(wr:List Int)(v:Value)(hv:zaf w v wr)(hwr:wr.length<=1000)(P0 P1:Nat)(k0:w.cell? ⟨P0,0,none⟩=some v)(k1:w.cell? ⟨P1,0,none⟩=some (.pointer (some ⟨R,0,none⟩))):Calls Tryz.prog 200 (#[.int .i64 o] ++ #[.pointer (some ⟨P0,0,none⟩),.pointer (some ⟨P1,0,none⟩)]) w fun e w'=>e=.returned (.bool (wr.any fun i=>inB (q.wrote o) i))/\Below w.heap.size w w':=by
 have l0:=World.block_lt_of_cell? w _ k0;have l1:=World.block_lt_of_cell? w _ k1;simp only at l0 l1;have HC:Hid (∀W,Below w.heap.size w W->∀P3,W.cell? ⟨P3,0,none⟩=some (.int .i64 o)->Calls Tryz.prog 150 #[v,.func (.func 201) #[] #[.pointer (some ⟨P1,0,none⟩),.pointer (some ⟨P3,0,none⟩)]] W fun r w'=>r=.returned (.bool (wr.any fun i=>inB (q.wrote o) i))/\Below W.heap.size W w'):=fun W hW P3 k3=>by refine zdB wr v _ _ _ W zpV (hv.below hW (Nat.le_refl _)) (by omega) fun W2 hW2 e _=>?_;have hW3:Below w.heap.size w W2:=hW.trans (hW2.mono hW.size);exact zxa (h.below hW3) hq o e ho1 ho6 P1 P3 ((hW3.cell (p:=⟨P1,0,none⟩) l1).trans k1) ((hW2.cell (p:=⟨P3,0,none⟩) (World.block_lt_of_cell? W _ k3)).trans k3)
 obtain⟨ad,b,off,cap,rfl,-⟩:=hv;obtain⟨n,hn⟩:∃n,wr.length=n:=⟨_,rfl⟩;rw[hn]at k0 HC;clear h hq hwr hn;go_enter Tryz.func200,Tryz.ntmps200;go_wp2_with (go_at_call 150;refine(HC.out _ ((Below.refl _ w).alloc (Nat.le_refl _) _) w.heap.size (by simp)).mono ?_;rintro e w1 ⟨rfl,hb1⟩);go_ret;exact⟨rfl,((Below.refl _ w).alloc (Nat.le_refl _) _).trans (hb1.mono (by simp))⟩
theorem zvL:zwl 157 zfc:=by
 intro w0 w R S F q c t h hq h1 h6 hb;obtain⟨n,hn⟩:=Option.isSome_iff_exists.1 hb;have e0:zfc q t=(q.done.drop n).any fun o=>(q.wrote t).any fun i=>inB (q.wrote o) i:=by unfold zfc;rw[hn];rfl
 rw[e0];have HR:Hid (∀W,Below w.heap.size w W->Calls Tryz.prog 199 #[.pointer (some ⟨R,0,none⟩),.int .i64 t] W fun e w'=>∃v',e=.returned v'/\w'.ownsRow W.heap.size 3 1 v' (q.wrote t).length ((q.wrote t).map (Value.int .i64))/\Below W.heap.size W w'):=fun W hW=>znt (h.below hW) h1 h6 (hq.lenW t);have HS:Hid (∀W,Below w.heap.size w W->Calls Tryz.prog 151 #[.pointer (some ⟨R,0,none⟩),.int .i64 t] W fun e w'=>∃v',e=.returned v'/\zaf w' v' (q.done.drop n)/\Below W.heap.size W w'):=fun W hW=>zmD (h.below hW) h1 h6 hn (hq.cnt t n hn) hq.lenD;have HC:Hid (∀W,Below w.heap.size w W->∀u v P0 P1,zaf W u (q.done.drop n)->zaf W v (q.wrote t)->W.cell? ⟨P0,0,none⟩=some v->W.cell? ⟨P1,0,none⟩=some (.pointer (some ⟨R,0,none⟩))->Calls Tryz.prog 150 #[u,.func (.func 200) #[] #[.pointer (some ⟨P0,0,none⟩),.pointer (some ⟨P1,0,none⟩)]] W fun r w'=>r=.returned (.bool ((q.done.drop n).any fun o=>(q.wrote t).any fun i=>inB (q.wrote o) i))/\Below W.heap.size W w'):=fun W hW u v P0 P1 hu hv k0 k1=>by refine zdB (q.done.drop n) u _ _ _ W zrr hu (by have:=hq.lenD;rw[List.length_drop];omega) fun W2 hW2 e he=>?_;have h6:=hq.six e (List.mem_of_mem_drop he);exact zxt (h.below (hW.trans (hW2.mono hW.size))) hq e h6.1 h6.2 (q.wrote t) v (hv.below hW2 (Nat.le_refl _)) (hq.lenW t) P0 P1 ((hW2.cell (p:=⟨P0,0,none⟩) (World.block_lt_of_cell? W _ k0)).trans k0) ((hW2.cell (p:=⟨P1,0,none⟩) (World.block_lt_of_cell? W _ k1)).trans k1)
 obtain⟨N,hN⟩:∃N,(q.wrote t).length=N:=⟨_,rfl⟩;rw[hN]at HR;have HN:=zae hN;clear h hq h1 h6 hb hn e0 hN;go_enter Tryz.func157,Tryz.ntmps157;obtain⟨P,hP⟩:∃P,w.heap.size=P:=⟨_,rfl⟩;go_wp2_with fail;obtain⟨W,hW⟩:∃W,W=w.alloc (.cells #[.pointer (some ⟨R,0,none⟩)] 167):=⟨_,rfl⟩;rw[<-hW];have hbW:Below w.heap.size w W:=by rw[hW];exact(Below.refl _ w).alloc (Nat.le_refl _) _
 have k2:W.cell? ⟨P,0,none⟩=some (.pointer (some ⟨R,0,none⟩)):=by rw[hW,<-hP];simp
 clear hW;refine(HR.out W hbW).mono ?_;rintro e w1 ⟨v1,rfl,ho1,hb1⟩;obtain⟨ad1,cp1,rfl,-⟩:=zad ho1;have HB1:Hid (Below w.heap.size w w1):=hbW.trans (hb1.mono hbW.size);have m2:=(hb1.cell (p:=⟨P,0,none⟩) (World.block_lt_of_cell? W _ k2)).trans k2;have HO:=zae (zap ho1 HN.out);clear ho1 hb1 k2 hbW;have q2:=World.block_lt_of_cell? w1 _ m2;simp only at q2
 go_upto_region 2 with(fail)
 obtain⟨W3,hW3⟩:∃W,W=w1.alloc (.cells #[.slice ad1 N cp1] 24):=⟨_,rfl⟩;rw[<-hW3];have hb3:Below w1.heap.size w1 W3:=by rw[hW3];exact(Below.refl _ w1).alloc (Nat.le_refl _) _
 have n0:W3.cell? ⟨w1.heap.size,0,none⟩=some (.slice ad1 N cp1):=by rw[hW3];simp
 have n2:=(hb3.cell (p:=⟨P,0,none⟩) q2).trans m2;have HB3:Hid (Below w.heap.size w W3):=HB1.out.trans (hb3.mono HB1.out.size);have HO3:=zae (HO.out.below hb3 (Nat.le_refl _));clear hW3 hb3 m2 q2;obtain⟨P5,hP5⟩:∃P,P=w1.heap.size:=⟨_,rfl⟩;rw[<-hP5]at n0 ⊢;clear hP5 hP;go_wp2_with fail;refine(HS.out W3 HB3.out).mono ?_;rintro e w4 ⟨v4,rfl,hi4,hb4⟩;have r0:=(hb4.cell (p:=⟨P5,0,none⟩) (World.block_lt_of_cell? W3 _ n0)).trans n0;have r2:=(hb4.cell (p:=⟨P,0,none⟩) (World.block_lt_of_cell? W3 _ n2)).trans n2;have HB4:Hid (Below w.heap.size w w4):=HB3.out.trans (hb4.mono HB3.out.size);have HCC:=zae (HC.out w4 HB4.out v4 (.slice ad1 N cp1) P5 P hi4 (HO3.out.below hb4 (Nat.le_refl _)) r0 r2);clear hi4 hb4;go_wp2_with fail;refine HCC.out.mono ?_;rintro e w5 ⟨rfl,hb5⟩;go_wp2_with fail;go_ret;exact⟨rfl,HB4.out.trans (hb5.mono HB4.out.size)⟩
theorem zgS:zbB 156:=fun _ _=>by kernel_rfl
theorem zmJ:zbB 157:=fun _ _=>by kernel_rfl
theorem ziu:(Tryz.prog.info? 165).map (fun i=>i.size)=some 2:=by kernel_rfl
theorem zo6(w:World):Calls Tryz.prog 91 #[] w fun e w'=>e=.returned (.agg #[.func (.func 156) #[] #[],.func (.func 157) #[] #[]])/\Below w.heap.size w w':=by go_enter Tryz.func91,Tryz.ntmps91;go_wp2_with fail;exact bodyPost_ret (v:=.agg #[.func (.func 156) #[] #[],.func (.func 157) #[] #[]]) (results_cell_row Tryz.results91 _ _ w.heap.size 165 #[.func (.func 156) #[] #[],.func (.func 157) #[] #[]] (0,0) _ rfl (World.alloc_heap_new w _) Tryz.underlying165 rfl ziu) rfl ⟨rfl,(Below.refl _ w).alloc (Nat.le_refl _) _⟩
theorem outS(l:List Op3):outU 2 okS false l=((if(chk l).2=0 then(runQ seesS zfc l l.length).done else[],if(chk l).2=0 then(runQ seesS zfc l l.length).done.flatMap (runQ seesS zfc l l.length).read else[],if(chk l).2=0 then zit (runQ seesS zfc l l.length) 6 else[]),(chk l).2):=by
 by_cases hc:(chk l).2=0
 ·rw[if_pos hc,if_pos hc,if_pos hc,znV zyS hc,hc];rfl
 ·rw[if_neg hc,if_neg hc,if_neg hc,zfK hc]
theorem zB8:znm 34 2 okS false:=by
 intro l v w hI;rw[outS];have HRC:Hid (∀W,Below w.heap.size w W->_):=fun W hW=>zmW zgS zmJ zsC zvL.k l v W (fun _ _=>trivial) (hI.below hW (Nat.le_refl _));obtain⟨A,hA⟩:∃A,(if(chk l).2=0 then(runQ seesS zfc l l.length).done else[])=A:=⟨_,rfl⟩;obtain⟨B,hB⟩:∃B,(if(chk l).2=0 then(runQ seesS zfc l l.length).done.flatMap (runQ seesS zfc l l.length).read else[])=B:=⟨_,rfl⟩;obtain⟨C,hC⟩:∃C,(if(chk l).2=0 then zit (runQ seesS zfc l l.length) 6 else[])=C:=⟨_,rfl⟩;obtain⟨er,her⟩:∃e,zeH (chk l).2=e:=⟨_,rfl⟩
 have HER:Hid (er=.nilIface\/∃n,er=.iface 80 (.int .i64 n)):=by
  show _\/_;rw[<-her];unfold zeH;split
  ·exact .inl rfl
  ·exact .inr ⟨_,rfl⟩
 rw[hA,hB,hC,her]at HRC;simp only;rw[hA,hB,hC,her];obtain⟨ad,b,off,cap,rfl,-⟩:=hI;obtain⟨W0,hW0⟩:∃W,W=w.alloc (.cells #[.slice none 0 0,.slice none 0 0,.slice none 0 0] 77):=⟨_,rfl⟩;have hb0:Below w.heap.size w W0:=by rw[hW0];exact(Below.refl _ w).alloc (Nat.le_refl _) _
 have HB0:=zae hb0;have kz:W0.heap[w.heap.size]? = some (.cells #[.slice none 0 0,.slice none 0 0,.slice none 0 0] 77 (0,0)):=by rw[hW0];exact World.alloc_heap_new w _
 have HKZ:=zae kz;have hsz:W0.heap.size=w.heap.size+1:=by rw[hW0];simp
 have HSZ:=zae hsz;have HRL:=zae (zo6 W0);clear hA hB hC her hb0 kz hsz;go_enter Tryz.func34,Tryz.ntmps34
 go_upto_region 1 with(fail)
 rw[<-hW0];obtain⟨Z,hZ⟩:∃Z,Z=w.heap.size:=⟨_,rfl⟩;rw[<-hZ]at HKZ ⊢;have HZZ:Hid (Z<W0.heap.size/\w.heap.size<=Z):=by have:=HSZ.out;exact⟨by omega,by omega⟩
 clear hW0 hZ;go_wp2_with fail;refine HRL.out.mono ?_;rintro e w2 ⟨rfl,hb2⟩;have HB2:=zae hb2;have HCK:=zae (HRC.out w2 (HB0.out.trans (hb2.mono HB0.out.size)));clear hb2;go_wp2_with fail;refine HCK.out.mono ?_;rintro e w5 ⟨a1,a2,a3,rfl,hi1,hi2,hi3,hr,hb6⟩;have hb5:Below W0.heap.size W0 w5:=HB2.out.trans (hb6.mono HB2.out.size);have hz5:=(hb5.block Z HZZ.out.1).trans HKZ.out;have HF5:=zae (zyU hz5 HZZ.out.2 (HB0.out.trans (hb5.mono HB0.out.size)) (u1:=a1) (u2:=a2) (u3:=a3) hi1 hi2 hi3);have HRR:=zae hr;have z0:w5.cell? ⟨Z,0,none⟩=some (.slice none 0 0):=by rw[cell_of_row w5 Z _ _ _ _ hz5];rfl
 have z1:w5.cell? ⟨Z,1,none⟩=some (.slice none 0 0):=by rw[cell_of_row w5 Z _ _ _ _ hz5];rfl
 have z2:w5.cell? ⟨Z,2,none⟩=some (.slice none 0 0):=by rw[cell_of_row w5 Z _ _ _ _ hz5];rfl
 have y0:w5.frozen? ⟨Z,0,none⟩=false:=by simp[World.frozen?,hz5]
 have y1:w5.frozen? ⟨Z,1,none⟩=false:=by simp[World.frozen?,hz5]
 have y2:w5.frozen? ⟨Z,2,none⟩=false:=by simp[World.frozen?,hz5]
 obtain⟨d1,n1,p1,x1⟩:∃d n p,a1=.slice d n p:=by obtain⟨a,_,_,c,h,_⟩:=hi1;exact⟨a,_,c,h⟩
 obtain⟨d2,n2,p2,x2⟩:∃d n p,a2=.slice d n p:=by obtain⟨a,_,_,c,h,_⟩:=hi2;exact⟨a,_,c,h⟩
 obtain⟨d3,n3,p3,x3⟩:∃d n p,a3=.slice d n p:=by obtain⟨a,_,_,c,h,_⟩:=hi3;exact⟨a,_,c,h⟩
 subst x1 x2 x3;clear hi1 hi2 hi3 hr hb5 hb6 hz5;rcases HER.out with rfl | ⟨ne,rfl⟩
 ·go_wp2_with fail;exact bodyPost_ret (v:=.tuple #[.agg #[.slice d1 n1 p1,.slice d2 n2 p2,.slice d3 n3 p3],.nilIface]) (zaZ Tryz.results34 _ _ Z 77 #[.slice d1 n1 p1,.slice d2 n2 p2,.slice d3 n3 p3] (0,0) _ .nilIface rfl rfl HF5.out.1 Tryz.underlying77 rfl zaL) rfl ⟨_,_,_,rfl,HF5.out.2.1,HF5.out.2.2.1,HF5.out.2.2.2.1,HRR.out,HF5.out.2.2.2.2⟩
 ·go_wp2_with fail;exact bodyPost_ret (v:=.tuple #[.agg #[.slice d1 n1 p1,.slice d2 n2 p2,.slice d3 n3 p3],.iface 80 (.int .i64 ne)]) (zaZ Tryz.results34 _ _ Z 77 #[.slice d1 n1 p1,.slice d2 n2 p2,.slice d3 n3 p3] (0,0) _ (.iface 80 (.int .i64 ne)) rfl rfl HF5.out.1 Tryz.underlying77 rfl zaL) rfl ⟨_,_,_,rfl,HF5.out.2.1,HF5.out.2.2.1,HF5.out.2.2.2.1,HRR.out,HF5.out.2.2.2.2⟩
end Go.Proofs.YthlhgiihngcobaaGreatDoor
namespace Go.Proofs.YthlhgiihngcobaaGreatDoor
open Go.RowKit
theorem zjj{w0 w:World}{R:Nat}{S F:Value}{q:Crs}{c:zbZ}(h:zaq w0 w R S F q c)(hq:zaR 1000 q){t:Int}(h1:1<=t)(h6:t<=6){n:Nat}(hn:q.began t=some n)(o:Int):Calls Tryz.prog 265 #[.pointer (some ⟨R,0,none⟩),.int .i64 o,.int .i64 t] w fun e w'=>e=.returned (.bool (inB (q.done.take n) o))/\Below w.heap.size w w':=by
 have c2:=h.c2;have c3:=h.c3;obtain⟨m,hm⟩:=h.beg;have hwf:=zaX h1 h6;obtain⟨ad1,cap1,e1,-⟩:=zad h.done;have hrow:=h.done;rw[e1]at hrow c2;obtain⟨ad2,cap2,hsl,hI⟩:=zlL hrow (hq.cnt t n hn);have hg:(zgV q.began t).getD (.int .i64 0)=.int .i64 (n:Int):=by unfold zgV;rw[hn];rfl
 have hlk0:(Instr.lookup 148 (.map (some c.B)) (.int .i64 t) false).run Tryz.prog w.drew=.ok (.int .i64 (n:Int)) w.drew:=by have:=(zax.drew hm).look false Tryz.underlying148 (zem _) hwf;rw[hg]at this;exact this
 obtain⟨N,hN⟩:∃N,q.done.length=N:=⟨_,rfl⟩;rw[hN]at hsl c2;have HC:Hid (∀W,Below w.heap.size w W->Calls Tryz.prog 48 #[.slice ad2 n cap2,.int .i64 o] W fun e w'=>e=.returned (.bool (inB (q.done.take n) o))/\Below W.heap.size W w'):=fun W hW =>(zfJ (q.done.take n) _ o W (hI.below hW (Nat.le_refl _)) (by have:=hq.lenD;rw[List.length_take];omega)).mono fun e w' hh=>⟨hh.1,by rw[hh.2];exact Below.refl _ _⟩;have HKC:Hid (∀W,Below w.heap.size w W->W.cell? ⟨R,2,none⟩=some (.slice ad1 N cap1)/\W.cell? ⟨R,3,none⟩=some (.map (some c.B))):=fun W hW=>⟨(hW.cell (p:=⟨R,2,none⟩) h.lt).trans c2,(hW.cell (p:=⟨R,3,none⟩) h.lt).trans c3⟩;clear h hq hm h1 h6 hn e1 hrow hI hg hN;go_enter Tryz.func265,Tryz.ntmps265
 go_upto_region 1 with(fail)
 go_region_held3 (fun w'=>w'.cell? ⟨R,2,none⟩=some (.slice ad1 N cap1)/\w'.cell? ⟨R,3,none⟩=some (.map (some c.B))) (first | exact⟨ke0,ke1⟩ | exact⟨c2,c3⟩) (first | (go_at_call 48;refine(HC.out _ (Below.refl _ w).drew).mono ?_;rintro e w1 ⟨rfl,hb0⟩;have hb1:Below w.heap.size w w1:=(Below.refl _ w).drew.trans hb0;clear hb0;obtain⟨ke0,ke1⟩:=HKC.out w1 hb1))
 all_goals
  go_wp2_with fail;go_ret;exact⟨rfl,hb1⟩
theorem zw7{w0 w:World}{R:Nat}{S F:Value}{q:Crs}{c:zbZ}(h:zaq w0 w R S F q c)(hq:zaR 1000 q){a b:Int}(ha1:1<=a)(ha6:a<=6)(hb1:1<=b)(hb6:b<=6)(ha:(q.began a).isSome=true)(hb:(q.began b).isSome=true):Calls Tryz.prog 236 #[.pointer (some ⟨R,0,none⟩),.int .i64 a,.int .i64 b] w fun e w'=>e=.returned (.bool (isT q a b))/\Below w.heap.size w w':=by
 obtain⟨na,hna⟩:=Option.isSome_iff_exists.1 ha;obtain⟨nb,hnb⟩:=Option.isSome_iff_exists.1 hb;have e0:isT q a b=(!inB (q.done.take nb) a && !inB (q.done.take na) b):=by unfold isT;rw[hna,hnb];rfl
 rw[e0];have HSA:=zae (zjj h hq hb1 hb6 hnb a);have HSB:Hid (∀W,Below w.heap.size w W->Calls Tryz.prog 265 #[.pointer (some ⟨R,0,none⟩),.int .i64 b,.int .i64 a] W fun e w'=>e=.returned (.bool (inB (q.done.take na) b))/\Below W.heap.size W w'):=fun W hW=>zjj (h.below hW) hq ha1 ha6 hna b;clear h hq ha hb hna hnb e0;go_enter Tryz.func236,Tryz.ntmps236;cases hin:inB (q.done.take nb) a with
 | true =>rw[hin]at HSA;go_wp2_with fail;refine HSA.out.mono ?_;rintro e w1 ⟨rfl,hb1⟩;go_wp2_with fail;go_ret;exact⟨rfl,hb1⟩
 | false =>
   rw[hin]at HSA;go_wp2_with fail;refine HSA.out.mono ?_;rintro e w1 ⟨rfl,hb1⟩;have HB1:=zae hb1;clear hb1;go_wp2_with fail;refine(HSB.out w1 HB1.out).mono ?_;rintro e w2 ⟨rfl,hb2⟩;have HB2:Hid (Below w.heap.size w w2):=HB1.out.trans (hb2.mono HB1.out.size);clear hb2;cases hin2:inB (q.done.take na) b with
   | true =>go_wp2_with fail;go_ret;exact⟨by rw[hin2];rfl,HB2.out⟩
   | false =>go_wp2_with fail;go_ret;exact⟨by rw[hin2];rfl,HB2.out⟩
end Go.Proofs.YthlhgiihngcobaaGreatDoor
namespace Go.Proofs.YthlhgiihngcobaaGreatDoor
def zkb(q:Crs)(a b:Int):Bool:=(q.read a).any fun x=>x.2.2 != a && inB (q.wrote b) x.2.1
def zBP(q:Crs)(a b:Int):Bool:=(a != b && isT q a b) && zkb q a b
def edgesG(is:Int->Int->Bool)(ds:List Int):List Int->List zab
 | []=>[]
 | x::r=>((ds.filter (is x)).map fun y=>(x,y))++edgesG is ds r
def zr5(q:Crs)(ds:List Int):List zab:=edgesG (zBP q) (sortI ds) (sortI ds)
def zg1(q:Crs)(t:Int):Bool:=zfc q t || decide (0<(zcw (zr5 q (q.done++[t])) 6).length)
theorem zi7(is:Int->Int->Bool)(ds:List Int):∀r e,e∈edgesG is ds r↔e.1∈r/\e.2∈ds/\is e.1 e.2=true:=by
 intro r
 induction r with
 | nil=>intro e;simp[edgesG]
 | cons x r ih =>
   intro e;unfold edgesG;rw[List.mem_append,ih e,List.mem_map,List.mem_cons];constructor
   ·rintro(⟨y,hy,rfl⟩ | ⟨h1,h2⟩)
    ·obtain⟨h1,h2⟩:=List.mem_filter.1 hy;exact⟨.inl rfl,h1,h2⟩
    ·exact⟨.inr h1,h2⟩
   ·rintro⟨h1 | h1,h2,h3⟩
    ·exact .inl ⟨e.2,List.mem_filter.2 ⟨h2,by rw[<-h1];exact h3⟩,by rw[<-h1]⟩
    ·exact .inr ⟨h1,h2,h3⟩
theorem zm3(is:Int->Int->Bool)(ds:List Int)(hd:ds.Pairwise (· < ·)):∀r:List Int,r.Pairwise (· < ·)->zmM (edgesG is ds r):=by
 intro r
 induction r with
 | nil=>intro _;exact List.Pairwise.nil
 | cons x r ih =>
   intro hp;obtain⟨h1,h2⟩:=List.pairwise_cons.1 hp;unfold edgesG zmM;refine List.pairwise_append.2 ⟨?_,ih h2,fun a ha b hb=>?_⟩
   ·rw[List.pairwise_map];refine(hd.sublist List.filter_sublist).imp fun {y z} hyz=>?_;unfold ltB;simp;omega
   ·obtain⟨y,hy,rfl⟩:=List.mem_map.1 ha;have:=h1 _ ((zi7 is ds r b).1 hb).1;unfold ltB;simp;omega
theorem zjI(is:Int->Int->Bool)(ds:List Int):∀r:List Int,(edgesG is ds r).length<=r.length*ds.length:=by
 intro r
 induction r with
 | nil=>simp[edgesG]
 | cons x r ih =>unfold edgesG;rw[List.length_append,List.length_map,List.length_cons,Nat.succ_mul];have:=List.length_filter_le (is x) ds;omega
def zBS(s:Kst)(ds:List Int):Prop:=∀x∈ds,s.beg x=true/\((x∈s.done/\0<=(s.of x).ended)\/(x ∉ s.done/\(s.of x).ended<0))
theorem zl6{s:Kst}{q:Crs}(h:zje s q){ds:List Int}(hs:zBS s ds){x y:Int}(hx:x∈ds)(hy:y∈ds)(hxy:x≠y):(!inB (q.done.take ((q.began x).getD 0)) y)=(decide ((s.of y).ended<0) || decide ((s.of x).began<(s.of y).ended)):=by
 rcases(hs y hy).2 with⟨h1,h2⟩ | ⟨h1,h2⟩
 ·rw[zrR h (hs x hx).1 h1 hxy,decide_eq_false (show ¬(s.of y).ended<0 by omega),Bool.false_or]
 ·rw[zub h h1,decide_eq_true h2,Bool.true_or]
theorem zuA{s:Kst}{q:Crs}(h:zje s q){ds:List Int}(hs:zBS s ds){a b:Int}(ha:a∈ds)(hb:b∈ds)(hab:a≠b):isT q a b=znH (s.of a) (s.of b):=by unfold isT znH;rw[zl6 h hs hb ha (fun e=>hab e.symm),zl6 h hs ha hb hab,Bool.and_comm]
theorem zlt{s:Kst}{q:Crs}(h:zje s q)(a b:Int):zkb q a b=((s.of b).wrote.any fun item=>zlO a (s.of a) item):=by
 unfold zkb zlO;rw[h.read a,h.wrote b,Bool.eq_iff_iff];simp only[List.any_eq_true,Bool.and_eq_true,beq_iff_eq];constructor
 ·rintro⟨x,hx,h1,h2⟩;exact⟨x.2.1,zaV.1 h2,x,hx,rfl,h1⟩
 ·rintro⟨i,hi,x,hx,h1,h2⟩;exact⟨x,hx,h2,by rw[h1];exact zaV.2 hi⟩
theorem zAn{s:Kst}{q:Crs}(h:zje s q){ds:List Int}(hn:ds.Nodup)(h6:∀t∈ds,1<=t/\t<=6)(hs:zBS s ds):zr5 q ds=zBQ s.of ds:=by
 have hm:∀x,x∈sortI ds↔x∈ds:=fun x=>(zay ds).mem_iff;unfold zr5;refine zte _ _ (zm3 _ _ (zjD hn) _ (zjD hn)) (List.Pairwise.sublist List.filter_sublist zkW) fun e=>?_;rw[zi7,hm,hm];unfold zBQ zB1 zBP zlc;simp only[List.mem_filter,Bool.and_eq_true,znq,bne_iff_ne];constructor
 ·rintro⟨h1,h2,⟨h3,h4⟩,h5⟩;exact⟨zoY (h6 _ h1).1 (h6 _ h1).2 (h6 _ h2).1 (h6 _ h2).2,⟨h1,h2⟩,h3,by rw[<-zuA h hs h1 h2 h3];exact h4,by rw[<-zlt h];exact h5⟩
 ·rintro⟨_,⟨h1,h2⟩,h3,h4,h5⟩;exact⟨h1,h2,⟨h3,by rw[zuA h hs h1 h2 h3];exact h4⟩,by rw[zlt h];exact h5⟩
theorem zA3(s:Kst)(t:Int)(r:Dl):zyP 3 s t r=zyP 2 s t r:=by unfold zyP;simp
theorem zA0(s:Kst)(at_:Int)(r:Dl)(t item:Int):seeK 3 s at_ r t item=seeK 2 s at_ r t item:=by unfold seeK;simp
theorem zBr:zja 3 zpZ seesS zg1:=by
 intro l k s q t hK h h1 hnd ht1 ht6;obtain⟨a,b⟩:=zyS l k s q t hK h h1 hnd ht1 ht6;refine⟨fun item=>by rw[a item,zA0],?_⟩;unfold okS at b;rw[Bool.not_not]at b;unfold zg1 zpZ;rw[b,zA3,Bool.not_and,Bool.not_not,Bool.not_not,zbI,h.done];congr 1;have hof:(zaJ s k t).of=setF s.of t (nowK s k t):=rfl
 have hnow:(nowK s k t).ended=-1:=by
  unfold nowK;split
  ·rename_i hb;exact hK.open_ t hb hnd
  ·rfl
 have hset:zBS (zaJ s k t) (s.done++[t]):=fun x hx=>by
  rcases List.mem_append.1 hx with hx | hx
  ·have hne:x≠t:=fun e=>hnd (e ▸hx);refine⟨?_,.inl ⟨hx,?_⟩⟩
   ·show setF s.beg t true x=true;rw[zaa _ _ hne];exact(hK.comm x hx).1
   ·show 0<=(setF s.of t (nowK s k t) x).ended;rw[zaa _ _ hne];exact(hK.comm x hx).2.2.2.1
  ·have e:=List.mem_singleton.1 hx;subst e;refine⟨?_,.inr ⟨hnd,?_⟩⟩
   ·show setF s.beg x true x=true;rw[setF_same]
   ·show(setF s.of x (nowK s k x) x).ended<0;rw[setF_same,hnow];decide
 have h6:∀x∈s.done++[t],1<=x/\x<=6:=fun x hx=>by
  rcases List.mem_append.1 hx with hx | hx
  ·exact⟨(hK.comm x hx).2.1,(hK.comm x hx).2.2.1⟩
  ·rw[List.mem_singleton.1 hx];exact⟨ht1,ht6⟩
 have hnod:(s.done++[t]).Nodup:=by rw[List.nodup_append];exact⟨hK.once,by simp,fun x hx y hy e=>hnd (by rw[List.mem_singleton.1 hy]at e;exact e ▸hx)⟩
 rw[zAn h1 hnod h6 hset,hof,<-zyf h6,Bool.eq_iff_iff,decide_eq_true_eq,List.length_pos_iff,ne_eq,zv0 h6,Bool.not_eq_false]
end Go.Proofs.YthlhgiihngcobaaGreatDoor
namespace Go.Proofs.YthlhgiihngcobaaGreatDoor
open Go.RowKit
def ziV:Prop:=∀(zs:List Int) (v:Value) (base n:Nat) (w:World),zs.length=n->zs.length<=1000->w.ownsRow base 3 1 v n (zs.map (Value.int .i64)) ->
 Calls Tryz.prog 185 #[v] w fun e w'=>e=.returned (.tuple #[])/\w'.ownsRow base 3 1 v n ((sortI zs).map (Value.int .i64))/\w.grownBy w' v.ownBlock
end Go.Proofs.YthlhgiihngcobaaGreatDoor
