/-
  PROVED HERE: strict.lane's method come, over a run in memory; strict.lane's method inOrder, over a run in memory; package strict keeps what it is asked (StrictC); how package stamp's book (with leave or not, the greatest numbers that read and wrote each item, what is.
  Conditions: none but those that each theorem's own premises say.
-/
import Derived.Test.YthlhgiihngcobaaGreatDoorMgbp
import Derived.Test.YthlhgiihngcobaaGreatDoorMgbn
import Derived.Test.YthlhgiihngcobaaGreatDoorMgan
import Derived.Test.YthlhgiihngcobaaGreatDoorMgao
import Derived.Test.YthlhgiihngcobaaGreatDoorMgbh
set_option maxHeartbeats 32000000
set_option maxRecDepth 100000
namespace Go.Proofs.YthlhgiihngcobaaGreatDoor
open Go.RowKit
theorem ziI{w:World}{base e size n:Nat}{v:Value}{xs:List Value}(h:zfe w base e size v n xs):∃ad c,v=.slice ad n c:=by
 obtain⟨_,⟨hv,hd⟩ | ⟨g,off,cap,cur,hv,_⟩⟩:=h
 ·exact⟨none,0,by rw[hv,hd]⟩
 ·exact⟨_,cap,hv⟩
theorem ziT(w:World)(ob:Obj){g:Nat}(h:g<w.heap.size):(w.alloc ob).heap[g]? = w.heap[g]? := ((Below.refl w.heap.size w).alloc (Nat.le_refl _) ob).block g h
abbrev noP:Int->Option Op3:=fun _=>none
theorem ztq{way:Int}(hway:way=0\/way=1\/way=2){R:Nat}{r:zat}{c:Lay}{o:Op3}{w:World}(h:zah w R way r (wm r noP) c)(hg:zb5 r)(hf:zbw r noP)(hp:pot r<=46)(hs:sum6 r.behind<41)(hop:isOpB o=true):Calls Tryz.prog 83 #[.pointer (some ⟨R,0,none⟩),zgA o] w fun e w'=>e=.returned (.tuple #[])/\zav w w' R way c (zc5 way r o) (wm (zc5 way r o) noP):=by
 have HD:=zag (zxV hway 41);obtain⟨h1,h6⟩:=za1 hop;obtain⟨t,a,i⟩:=o;simp only at h1 h6;obtain⟨dt,rfl⟩:∃d:Nat,t=d:=⟨t.toNat,by omega⟩;have HG:Hid (zb5 r/\zbw r noP/\pot r<=46/\sum6 r.behind<41/\isOpB ((dt:Int),a,i)=true):=⟨hg,hf,hp,hs,hop⟩;obtain⟨i0,hi,hz0,hs0,hy0⟩:=info_parts zve;have HI:Hid (Tryz.prog.info? 103=some i0/\i0.zero=some (.agg #[.int .i64 0,.int .i64 0,.int .i64 0])/\i0.size=3/\i0.bytes=24):=⟨hi,hz0,hs0,hy0⟩;have hwf:Wf (dt:Int):=zaX h1 h6;have hd1:1<=dt:=by omega
 have hd6:dt<=6:=by omega
 have HL:=zag h;clear hg hf hp hs hop hi hz0 hs0 hy0 h h1 h6;go_enter Tryz.func83,Tryz.ntmps83
 go_upto_region 2 with(fail)
 obtain⟨W,hW⟩:∃W,W=w.alloc (.cells #[.int .i64 (dt:Int),.int .i64 a,.int .i64 i] 103):=⟨_,rfl⟩;rw[<-hW];have hbx:zf2 W w.heap.size ((dt:Int),a,i):=by rw[hW];exact zfL _ _ _ _ _
 have hbW:Below w.heap.size w W:=by rw[hW];exact(Below.refl _ w).alloc (Nat.le_refl _) _
 obtain⟨Q,hQ⟩:∃Q,Q=w.heap.size:=⟨_,rfl⟩;have HQF:Hid (¬feet R c Q):=fun hk=>by have:=HL.out.feet_lt hk;omega
 have HSW:=zag ((zbV.start HL.out).below hbW);rw[<-hQ]at hbx ⊢;have HBX:=zag hbx;obtain⟨p0,p1,p2⟩:=hbx;simp only at p0 p1 p2;have hab:=zfA HSW.out.run hwf;have hPW:Q<W.heap.size:=World.block_lt_of_cell? W _ p0;clear hW hbW hQ;cases ho:r.out (dt:Int)with
 | true =>
   have hmem:(dt:Int)∈r.vict:=(HG.out.2.1.vict _).1 ho;rw[decide_eq_true hmem]at hab;have HAB:=zag hab;have HC:Hid (zc5 way r ((dt:Int),a,i)=r):=by show _=_;unfold zc5;rw[if_pos ho]
   clear hab hmem ho;go_wp2_with fail;refine HAB.out.mono ?_;rintro e w3 ⟨rfl,hw3⟩;rw[hw3];clear hw3;go_wp2_with fail;go_end0;exact⟨rfl,by rw[HC.out];exact HSW.out.done⟩
 | false =>
   have hmem:¬(dt:Int)∈r.vict:=fun hm=>by rw[(HG.out.2.1.vict _).2 hm]at ho;cases ho
   rw[decide_eq_false hmem]at hab;have HAB:=zag hab;have hiw:=zdw HSW.out.run (zny r noP) hwf;rw[ztk r rfl]at hiw;cases hw:r.waits (dt:Int)with
   | false =>
     have HC:Hid (zc5 way r ((dt:Int),a,i)=doN way 41 r ((dt:Int),a,i)):=by show _=_;unfold zc5;rw[if_neg (by rw[ho];decide),if_neg (by rw[hw];decide)]
     rw[hw]at hiw;have HIW:=zag hiw;have HOW:=zag (And.intro ho hw);clear hab hmem ho hw hiw;go_wp2_with fail;refine HAB.out.mono ?_;rintro e w3 ⟨rfl,hw3⟩;rw[hw3];clear hw3;go_wp2_with fail;refine HIW.out.mono ?_;rintro e w4 ⟨rfl,hb4⟩;have HS4:=zag (HSW.out.below hb4);obtain⟨q0,q1,q2⟩:=HBX.out.below hb4;simp only at q0 q1 q2;have HDO:=zag (HD.out R r c noP ((dt:Int),a,i) w4 HS4.out.run HG.out.1 HG.out.2.1 HG.out.2.2.1 HG.out.2.2.2.1 HOW.out.1 HOW.out.2 HG.out.2.2.2.2);clear hb4 p0 p1 p2 HBX HSW HIW HAB hPW;go_wp2_with fail;refine HDO.out.mono ?_;rintro e w5 ⟨rfl,hst5⟩;obtain⟨c5,hs5⟩:=HS4.out.step hst5;have HS5:=zag hs5;clear hst5 hs5 q0 q1 q2;go_wp2_with fail;go_end0;exact⟨rfl,by rw[HC.out];exact HS5.out.done⟩
   | true =>
     have HC:Hid (zc5 way r ((dt:Int),a,i)={ r with behind:=setF r.behind (dt:Int) (r.behind (dt:Int)++[((dt:Int),a,i)]) }):=by show _=_;unfold zc5;rw[if_neg (by rw[ho];decide),if_pos hw]
     rw[hw]at hiw;have HIW:=zag hiw;clear hab hmem ho hw hiw;go_wp2_with fail;refine HAB.out.mono ?_;rintro e w3 ⟨rfl,hw3⟩;rw[hw3];clear hw3;go_wp2_with fail;refine HIW.out.mono ?_;rintro e w4 ⟨rfl,hb4⟩;have HS4:=zag (HSW.out.below hb4);have HB4:=zag (HBX.out.below hb4);obtain⟨q0,q1,q2⟩:=HBX.out.below hb4;simp only at q0 q1 q2;have hQ4:Q<w4.heap.size:=World.block_lt_of_cell? w4 _ q0;have hR4:=HS4.out.run.lt;have k5:=HS4.out.run.c5;obtain⟨m5,hm5⟩:=HS4.out.run.beh;have HM5:=zag hm5;obtain⟨ad5,c5,e5⟩:=ziI (HS4.out.run.rows dt (by omega));obtain⟨n5,hn5⟩:∃n,(r.behind (dt:Int)).length=n:=⟨_,rfl⟩;rw[hn5]at e5;have hn40:n5<=40:=by have h2:=zyC (f:=r.behind) (show(1:Int)<=(dt:Int)by omega) (show(dt:Int)<=6 by omega);have h3:=HG.out.2.2.2.1;omega
     have HV:Hid (zfe w4 0 103 3 (.slice ad5 n5 c5) n5 (flat (r.behind (dt:Int)))):=by show zfe _ _ _ _ _ _ _;have:=HS4.out.run.rows dt (by omega);rw[e5,hn5]at this;exact this
     have hbv:(c.h (dt:Int)).getD (.slice none 0 0)=.slice ad5 n5 c5:=e5;have hlk0:(Instr.lookup 150 (.map (some c.B)) (.int .i64 (dt:Int)) false).run Tryz.prog w4.drew=.ok (.slice ad5 n5 c5) w4.drew:=by have:=(zax.drew hm5).look false Tryz.underlying150 (zb1 _) hwf;rw[hbv]at this;exact this
     have hlk1:∀ob:Obj,(Instr.lookup 150 (.map (some c.B)) (.int .i64 (dt:Int)) false).run Tryz.prog (w4.drew.alloc ob)=.ok (.slice ad5 n5 c5) (w4.drew.alloc ob):=fun ob=>by have h2:zax (w4.drew.alloc ob) c.B c.h m5:=hm5.turn (zac.alloc (zac.drew (zac.refl (fun _=>False) w4)) ob) fun hf=>hf;have:=h2.look false Tryz.underlying150 (zb1 _) hwf;rw[hbv]at this;exact this
     have hlk2:∀ob:Obj,(Instr.lookup 150 (.map (some c.B)) (.int .i64 (dt:Int)) false).run Tryz.prog (w4.alloc ob).drew=.ok (.slice ad5 n5 c5) (w4.alloc ob).drew:=fun ob=>by have h2:zax (w4.alloc ob).drew c.B c.h m5:=hm5.turn (zac.drew (zac.alloc (zac.refl (fun _=>False) w4) ob)) fun hf=>hf;have:=h2.look false Tryz.underlying150 (zb1 _) hwf;rw[hbv]at this;exact this
     have HPT:Hid (∀v2 w2 (ob:Obj),zfe w2 0 103 3 v2 (n5+1) (flat (r.behind (dt:Int))++flat [((dt:Int),a,i)])->(w4.drew.alloc ob).grownBy w2 (Value.slice ad5 n5 c5).ownBlock->(∀k,v2.ownBlock=some k->(Value.slice ad5 n5 c5).ownBlock=some k\/(w4.drew.alloc ob).heap.size<=k)->(w2.cell? ⟨R,5,none⟩=some (.map (some c.B))/\w2.cell? ⟨Q,0,none⟩=some (.int .i64 (dt:Int))/\w2.cell? ⟨Q,1,none⟩=some (.int .i64 a)/\w2.cell? ⟨Q,2,none⟩=some (.int .i64 i))/\∃X,(X.cell? ⟨R,5,none⟩=some (.map (some c.B))/\X.cell? ⟨Q,0,none⟩=some (.int .i64 (dt:Int))/\X.cell? ⟨Q,1,none⟩=some (.int .i64 a)/\X.cell? ⟨Q,2,none⟩=some (.int .i64 i))/\(Instr.mapUpdate 150 (.map (some c.B)) (.int .i64 (dt:Int)) v2).run Tryz.prog w2=.ok () X/\zav w4 X R way c { r with behind:=setF r.behind (dt:Int) (r.behind (dt:Int)++[((dt:Int),a,i)]) } (wm r noP)):=fun v2 w2 ob h1 h2 h3=>by
      have htu:zac (fun k=>(c.bv (dt:Int)).ownBlock=some k) w4 w2:=by rw[e5];exact zbx h2
      have hnR:¬(c.bv (dt:Int)).ownBlock=some R:=fun e=>HS4.out.run.apart 0 (dt+6) R (by omega) (by omega) (by omega) rfl e;have hnQ:¬(c.bv (dt:Int)).ownBlock=some Q:=fun e=>HQF.out ⟨dt+6,by omega,e⟩;have hnB:¬(c.bv (dt:Int)).ownBlock=some c.B:=fun e=>HS4.out.run.apart 5 (dt+6) c.B (by omega) (by omega) (by omega) rfl e;obtain⟨X,hup,hmX,htX⟩:=(HM5.out.turn htu hnB).store (v:=v2) Tryz.underlying150 (show(1:Int)<=(dt:Int)by omega) (show(dt:Int)<=6 by omega);have f0:=(htu.cell (p:=⟨R,5,none⟩) HS4.out.run.lt hnR).trans HS4.out.run.c5;have f1:=HB4.out.turn htu hnQ;have hBR:¬R=c.B:=fun e=>HS4.out.run.apart 0 5 R (by omega) (by omega) (by omega) rfl e;have hBQ:¬Q=c.B:=fun e=>HQF.out ⟨5,by omega,e⟩;have f2:=f1.turn htX hBQ;refine⟨⟨f0,f1.1,f1.2.1,f1.2.2⟩,X,⟨(htX.cell (p:=⟨R,5,none⟩) (World.block_lt_of_cell? w2 _ f0) hBR).trans f0,f2.1,f2.2.1,f2.2.2⟩,hup,?_⟩;refine HS4.out.run.setBeh (w0:=w2) (x:=some v2) (q:=r.behind (dt:Int)++[((dt:Int),a,i)]) (d:=dt) (by omega) htu hmX htX ?_ fun k hk=>?_
      ·show zfe w2 0 _ 3 v2 _ _;rw[List.length_append,hn5,zaP];exact h1
      ·rcases apart_later h3 k hk with h4 | h4
       ·exact .inl (by rw[e5];exact h4)
       ·exact .inr h4
     have HK5:Hid (w4.drew.cell? ⟨R,5,none⟩=some (.map (some c.B))/\w4.drew.cell? ⟨Q,0,none⟩=some (.int .i64 (dt:Int))/\w4.drew.cell? ⟨Q,1,none⟩=some (.int .i64 a)/\w4.drew.cell? ⟨Q,2,none⟩=some (.int .i64 i)):=⟨k5,q0,q1,q2⟩
     have HK6:Hid (∀ob:Obj,(w4.drew.alloc ob).cell? ⟨R,5,none⟩=some (.map (some c.B))/\(w4.drew.alloc ob).cell? ⟨Q,0,none⟩=some (.int .i64 (dt:Int))/\(w4.drew.alloc ob).cell? ⟨Q,1,none⟩=some (.int .i64 a)/\(w4.drew.alloc ob).cell? ⟨Q,2,none⟩=some (.int .i64 i)):=fun ob=>by
      refine⟨?_,?_,?_,?_⟩
      ·exact(World.cell?_alloc_lt w4.drew ob ⟨R,5,none⟩ hR4).trans k5
      ·exact(World.cell?_alloc_lt w4.drew ob ⟨Q,0,none⟩ hQ4).trans q0
      ·exact(World.cell?_alloc_lt w4.drew ob ⟨Q,1,none⟩ hQ4).trans q1
      ·exact(World.cell?_alloc_lt w4.drew ob ⟨Q,2,none⟩ hQ4).trans q2
     clear hb4 p0 p1 p2 HBX HSW HIW HAB hPW hm5 e5 hn5 hbv;go_wp2_with fail
     go_region_held3 (fun w'=>w'.cell? ⟨R,5,none⟩=some (.map (some c.B))/\w'.cell? ⟨Q,0,none⟩=some (.int .i64 (dt:Int))/\w'.cell? ⟨Q,1,none⟩=some (.int .i64 a)/\w'.cell? ⟨Q,2,none⟩=some (.int .i64 i)) (first | exact gX | exact g0 | exact HK5.out | exact HK6.out _) (first | (refine zg7 rfl (.tmp 29) (.tmp 31) 28 rfl 0 103 i0 (.agg #[.int .i64 0,.int .i64 0,.int .i64 0]) 3 24 Tryz.underlying28 HI.out.1 HI.out.2.1 HI.out.2.2.1 HI.out.2.2.2 rfl (by decide) (.slice ad5 n5 c5) n5 (flat (r.behind (dt:Int))) (by simp[Act.eval]) (HV.out.same fun k hk=>ziT w4.drew _ (HV.out.lt k hk).2) ⟨w4.heap.size,0,none⟩ 1 1 (flat [((dt:Int),a,i)]) (by simp[Act.eval]) rfl (zeF w4 ((dt:Int),a,i) _) (zba _) (by unfold maxLen;omega) (by omega) (Nat.zero_le _) ?_;intro v2 w2 hown2 hgr2 hap2;obtain⟨g0,X,gX,hup,g2⟩:=HPT.out v2 w2 _ hown2 hgr2 hap2;clear hap2 hgr2;obtain⟨ad6,c6,rfl⟩:∃ad c,v2=.slice ad (n5+1) c:=ziI hown2;have HK2:=zag g2;clear g2 hown2))
     all_goals
      obtain⟨c7,hs7⟩:=HS4.out.step HK2.out;have HS7:=zag hs7;clear hs7;go_wp2_with fail;go_end0;exact⟨rfl,by rw[HC.out];exact HS7.out.done⟩
end Go.Proofs.YthlhgiihngcobaaGreatDoor
namespace Go.Proofs.YthlhgiihngcobaaGreatDoor
open Go.RowKit
open Go.Maps (Keyed)
theorem znJ{R:Nat}{way:Int}{r:zat}{g:Int->Option Value}{c:Lay}{P:Int->Option Op3}{w:World}(h:zah w R way r g c)(hf:zbw r P)(hl:r.vict.length<=6):Calls Tryz.prog 84 #[.pointer (some ⟨R,0,none⟩)] w fun e w'=>∃ad n q,e=.returned (.slice ad n q)/\zaf w' (.slice ad n q) r.vict/\Below w.heap.size w w':=by
 obtain⟨vc,hvc⟩:∃vc,r.vict=vc:=⟨_,rfl⟩;have HN:Hid (vc.Pairwise (·≠·)):=by show List.Pairwise _ _;rw[<-hvc];exact hf.nodup
 have c3:=h.c3;have HL:=zag h;have HM:Hid (∀W,Below w.heap.size w W->zax W c.A (zbt vc) vc.length):=fun W hW=>by have:=(h.below hW).outs;rw[hvc]at this;exact this
 have hRl:=h.lt;rw[hvc]at hl ⊢;obtain⟨i0,hi,hz0,hs0,hy0⟩:=info_parts zbK;have HI:Hid (Tryz.prog.info? 3=some i0/\i0.zero=some (.int .i64 0)/\i0.size=1/\i0.bytes=8):=⟨hi,hz0,hs0,hy0⟩;obtain⟨m,hm⟩:∃m,vc.length=m:=⟨_,rfl⟩;have HMM:=zag hm;rw[hm]at hl;have hm0:(0:Int)<=(m:Int):=by omega
 clear hi hz0 hs0 hy0 hf hvc h hm;go_enter Tryz.func84,Tryz.ntmps84
 go_upto_region 2 with(first | (at_len;refine zoK _ rfl (.tmp 9) 148 rfl 3 Tryz.underlying148 c.A m (zbt vc) rfl (HMM.out ▸HM.out _ (Below.refl _ _)) ?_) | (at_make;refine wpList_make_full _ rfl (.tmp 10) (.tmp 10) 24 rfl w.heap.size 3 i0 (.int .i64 0) 1 Tryz.underlying24 HI.out.1 HI.out.2.1 HI.out.2.2.1 .i64 .i64 (m:Int) (m:Int) m rfl rfl rfl rfl (by rw[HI.out.2.2.2];omega) (by unfold maxLen;omega) (Nat.le_refl _) ?_;intro w1 hown1 hgr1))
 have HNU:Hid (zcI w1 w.heap.size m fun _=>0):=zi6 hown1 (zmy m);have HB1:Hid (Below w.heap.size w w1):=⟨hgr1.os,hgr1.tape,hgr1.output,hgr1.size,fun k hk=>hgr1.block k hk (by simp)⟩;have hS1:w.heap.size<w1.heap.size:=(hown1.lt w.heap.size rfl).2;obtain⟨D,hD1,hD2,hD3,hD4,-⟩:=HM.out w1 HB1.out;have HD1:=zag hD1;have HD3:=zag (And.intro hD3 hD4);obtain⟨S,hS⟩:∃S,S=w.heap.size:=⟨_,rfl⟩;have k3:w1.cell? ⟨R,3,none⟩=some (.map (some c.A)):=(HL.out.below HB1.out).c3;have hAS:c.A≠S:=by have:=(HM.out w (Below.refl _ _)).lt;omega
 have hRS:R≠S:=by omega
 have HSE:=zag hS;rw[<-hS]at HNU hS1 ⊢;clear hown1 hgr1 hD1 hD3 hD4 hS c3;go_wp2_with (at_range;refine wpList_range_own _ rfl (.tmp 15) 148 rfl 3 3 KI Tryz.underlying148 zaO c.A vc.length D rfl HD1.out ?_;intro w2 hrg2 hg2 hs2);have ht2:zac (fun _=>False) w1 w2:=(zac.refl _ w1).grown hg2 fun k hk=>by cases hk
 have HL2:Hid (zwk vc (Maps.has D) fun _=>0):=fun j hj hl=>by
  exfalso;have hmem:vc.getD j 0∈vc:=by simp[List.getD,hj]
  have hsm:(zbt vc (vc.getD j 0)).isSome=true:=by rw[zb8,decide_eq_true hmem]
  have hr:=HM.out w (Below.refl _ _);obtain⟨_,_,_,_,_,h5⟩:=hr;obtain⟨a1,a6⟩:=h5 _ hsm;rw[HD3.out.1 _ (zaX a1 a6),hsm]at hl;cases hl
 have HST:Hid (∃(left:Lit->Bool) (cnt:Nat) (vs:Nat->Int),w2.ranges Tryz.prog 3 zaO c.A w1.heap.size vc.length D left cnt/\zcI w2 S m vs/\zwk vc left vs/\Below w.heap.size w w2/\S<w2.heap.size) :=⟨_,_,_,hrg2,HNU.out.turn ht2 hS1 (fun hf=>hf),HL2.out,HB1.out.trans ((ht2.below (Nat.le_refl _) fun _ _ hf=>hf).mono HB1.out.size),Nat.lt_of_lt_of_le hS1 ht2.size⟩;have hSI:S≠w1.heap.size:=by omega
 have hSI2:S<w1.heap.size:=by omega
 obtain⟨I,hI⟩:∃I,I=w1.heap.size:=⟨_,rfl⟩;rw[<-hI]at HST hSI hSI2 ⊢;clear hrg2 hg2 hs2 ht2 HL2 k3 hI
 go_frame
 go_loopw [4] (fun _ wr=>∃(left:Lit->Bool) (cnt:Nat) (vs:Nat->Int),wr.ranges Tryz.prog 3 zaO c.A I vc.length D left cnt/\zcI wr S m vs/\zwk vc left vs/\Below w.heap.size w wr/\S<wr.heap.size) (fun _ wr=>wr.rangeLeft c.A I)
 case atStart=>exact HST.out
 case round =>
  obtain⟨left,cnt,vs,hrg,hnu,hlaid,hbel,hSr⟩:=hrel;have HRG:=zag hrg;have HNR:=zag hnu;have HLA:=zag hlaid;have HBE:=zag hbel;clear hrg hnu hlaid hbel HST;go_wp2_with (at_next;refine zgQ _ rfl (.tmp 16) rfl c.A I vc.length D left cnt vc rfl HRG.out HD3.out.1 HD3.out.2 ?_ ?_)
  ·intro hc0 hl0;have HEN:Hid (zaf wr (.slice (some ⟨S,0,none⟩) m m) vc):=by have h1:=HNR.out;rw[<-HMM.out]at h1 ⊢;exact h1.ints hSr fun j hj=>HLA.out j hj (hl0 _)
   clear hc0 hl0;go_wp2_with fail;go_ret;exact⟨_,_,_,rfl,HEN.out,HBE.out⟩
  ·intro x k w3 cnt3 hxk hrg3 hlt3 hg3 hs3 hen3;have hkm:k<m:=by rw[<-HMM.out];exact(List.getElem?_eq_some_iff.1 hxk).1
   have ht3:zac (fun j=>j=I) wr w3:=(zac.refl _ wr).grown hg3 fun j hj=>.inl (Option.some.inj hj).symm;have hn3:=HNR.out.turn ht3 hSr hSI;obtain⟨y0,y1⟩:=hn3 k hkm;have HN3:=zag hn3;have HR3:=zag hrg3;have HL3:=zag (HLA.out.step HN.out hxk)
   have HB3:Hid (Below w.heap.size w w3):=by
    have h1:¬I<w.heap.size:=by have:=HSE.out;omega
    exact HBE.out.trans (ht3.below HBE.out.size fun j hj e=>h1 (e ▸hj))
   have hS3:S<w3.heap.size:=Nat.lt_of_lt_of_le hSr ht3.size;have hk1:(k:Int)<(m:Int):=by omega
   have hk0:(0:Int)<=(k:Int):=by omega
   have hkn:¬(k:Int)<0:=by omega
   have HLE:=zag HRG.out.left_eq;clear hxk hrg3 ht3 hn3 hg3;go_wp2_with fail;go_roundw
   case rel =>have hkeep:(w3.setCell ⟨S,k,none⟩ (.int .i64 x)).ranges Tryz.prog 3 zaO c.A I vc.length D (fun z=>left z && !z.sameKey (Lit.int .i64 x)) cnt3:=HR3.out.kept (row:=some S) ⟨rfl,rfl,rfl,by simp,fun i hi hne=>by rw[Below.heap_setCell _ _ _ _ (fun e=>hne (by rw[e]))]⟩ (fun e=>hAS (Option.some.inj e)) (fun e=>hSI (Option.some.inj e).symm);exact⟨_,cnt3,_,hkeep,HN3.out.set hkm x,HL3.out,HB3.out.setCell (by rw[HSE.out];exact Nat.le_refl _) _,by simpa using hS3⟩
   case measure =>have hkeep:(w3.setCell ⟨S,k,none⟩ (.int .i64 x)).ranges Tryz.prog 3 zaO c.A I vc.length D (fun z=>left z && !z.sameKey (Lit.int .i64 x)) cnt3:=HR3.out.kept (row:=some S) ⟨rfl,rfl,rfl,by simp,fun i hi hne=>by rw[Below.heap_setCell _ _ _ _ (fun e=>hne (by rw[e]))]⟩ (fun e=>hAS (Option.some.inj e)) (fun e=>hSI (Option.some.inj e).symm);rw[hkeep.left_eq,HLE.out];exact hlt3
end Go.Proofs.YthlhgiihngcobaaGreatDoor
namespace Go.Proofs.YthlhgiihngcobaaGreatDoor
open Go.RowKit
theorem zt1{w w1:World}{T:Nat}{F:Nat->Prop}(way:Int)(hp:zrw w1 T F ([],[]))(hb:Below w.heap.size w w1)(hF:∀k,F k->w.heap.size<=k):∃c,zah ((((w1.alloc (.map #[] 0)).alloc (.map #[] 0)).alloc (.map #[] 0)).alloc (.cells #[.int .i64 way,.pointer (some ⟨T,0,none⟩),.slice none 0 0,.map (some w1.heap.size),.map (some (w1.heap.size+1)),.map (some (w1.heap.size+2))] 152)) (w1.heap.size+3) way zvR (wm zvR noP) c/\Below w.heap.size w ((((w1.alloc (.map #[] 0)).alloc (.map #[] 0)).alloc (.map #[] 0)).alloc (.cells #[.int .i64 way,.pointer (some ⟨T,0,none⟩),.slice none 0 0,.map (some w1.heap.size),.map (some (w1.heap.size+1)),.map (some (w1.heap.size+2))] 152))/\∀k,feet (w1.heap.size+3) c k->w.heap.size<=k:=by
 obtain⟨W1,hW1⟩:∃W,W=w1.alloc (.map #[] 0):=⟨_,rfl⟩;obtain⟨W2,hW2⟩:∃W,W=W1.alloc (.map #[] 0):=⟨_,rfl⟩;obtain⟨W3,hW3⟩:∃W,W=W2.alloc (.map #[] 0):=⟨_,rfl⟩;obtain⟨W4,hW4⟩:∃W,W=W3.alloc (.cells #[.int .i64 way,.pointer (some ⟨T,0,none⟩),.slice none 0 0,.map (some w1.heap.size),.map (some (w1.heap.size+1)),.map (some (w1.heap.size+2))] 152):=⟨_,rfl⟩;have s1:W1.heap.size=w1.heap.size+1:=by rw[hW1];simp
 have s2:W2.heap.size=w1.heap.size+2:=by rw[hW2];simp[s1]
 have s3:W3.heap.size=w1.heap.size+3:=by rw[hW3];simp[s2]
 have t1:zac (fun _=>False) w1 W1:=by rw[hW1];exact(zac.refl _ w1).alloc _
 have t2:zac (fun _=>False) W1 W2:=by rw[hW2];exact(zac.refl _ W1).alloc _
 have t3:zac (fun _=>False) W2 W3:=by rw[hW3];exact(zac.refl _ W2).alloc _
 have t4:zac (fun _=>False) W3 W4:=by rw[hW4];exact(zac.refl _ W3).alloc _
 have m1:zax W1 w1.heap.size (fun _=>none) 0:=by rw[hW1];exact zca w1
 have m2:zax W2 (w1.heap.size+1) (fun _=>none) 0:=by rw[hW2,<-s1];exact zca W1
 have m3:zax W3 (w1.heap.size+2) (fun _=>none) 0:=by rw[hW3,<-s2];exact zca W2
 have hFl:=fun k hk=>locksQ.lt hp k hk;have hb4:Below w1.heap.size w1 W4:=((((t1.trans t2 fun _ _ hf=>hf).trans t3 fun _ _ hf=>hf).trans t4 fun _ _ hf=>hf)).below (Nat.le_refl _) fun _ _ hf=>hf;rw[<-hW1,<-hW2,<-hW3,<-hW4];refine⟨⟨T,w1.heap.size,w1.heap.size+1,w1.heap.size+2,F,.slice none 0 0,fun _=>none⟩,⟨?_,?_,World.ownsRow_nil _ _ _ _,?_,⟨0,?_⟩,⟨0,m3.turn t4 (fun hf=>hf)⟩,fun d _=>zpM _ _ _ _,fun i j k hi hj hij h1 h2=>?_⟩,hb.trans (hb4.mono hb.size),fun k hk=>?_⟩
 ·rw[hW4,<-s3];exact heap_alloc_new W3 _
 ·exact locksQ.below hp hb4
 ·exact((m1.turn t2 (fun hf=>hf)).turn t3 (fun hf=>hf)).turn t4 (fun hf=>hf)
 ·exact zax.congr (((m2.turn t3 (fun hf=>hf)).turn t4 (fun hf=>hf))) fun d=>by unfold wm;rw[if_neg (by simp[zvR])]
 ·have hone:∀i k,i<13->zfD (w1.heap.size+3) ⟨T,w1.heap.size,w1.heap.size+1,w1.heap.size+2,F,.slice none 0 0,fun _=>none⟩ i k->(i=0/\k=w1.heap.size+3)\/(i=1/\k<w1.heap.size)\/(i=3/\k=w1.heap.size)\/(i=4/\k=w1.heap.size+1)\/(i=5/\k=w1.heap.size+2):=fun i k hi hk=>by
   match i,hk with
   | 0,hk=>exact .inl ⟨rfl,hk⟩
   | 1,hk=>exact .inr (.inl ⟨rfl,hFl k hk⟩)
   | 2,hk=>simp[zfD,Value.ownBlock]at hk
   | 3,hk=>exact .inr (.inr (.inl ⟨rfl,hk⟩))
   | 4,hk=>exact .inr (.inr (.inr (.inl ⟨rfl,hk⟩)))
   | 5,hk=>exact .inr (.inr (.inr (.inr ⟨rfl,hk⟩)))
   | d+6,hk=>simp[zfD,Lay.bv,Value.ownBlock]at hk
  have a1:=hone i k hi h1;have a2:=hone j k hj h2;omega
 ·obtain⟨i,hi,hk⟩:=hk;have hs:=hb.size
  match i,hk with
  | 0,hk=>rw[show k=w1.heap.size+3 from hk];omega
  | 1,hk=>exact hF k hk
  | 2,hk=>simp[zfD,Value.ownBlock]at hk
  | 3,hk=>rw[show k=w1.heap.size from hk];omega
  | 4,hk=>rw[show k=w1.heap.size+1 from hk];omega
  | 5,hk=>rw[show k=w1.heap.size+2 from hk];omega
  | d+6,hk=>simp[zfD,Lay.bv,Value.ownBlock]at hk
theorem znf(way:Int)(w:World):Calls Tryz.prog 82 #[.int .i64 way] w fun e w'=>∃R,e=.returned (.pointer (some ⟨R,0,none⟩))/\∃c,zah w' R way zvR (wm zvR noP) c/\Below w.heap.size w w'/\∀k,feet R c k->w.heap.size<=k:=by have hmm:=@run_makeMap Tryz.prog;go_enter Tryz.func82,Tryz.ntmps82;go_wp2_with fail;refine(locksQ.new w).mono ?_;rintro e w1 ⟨T,F,rfl,hp,hb,hF⟩;have HM:=zag (zt1 way hp hb hF);clear hp hb hF;go_wp2_with fail;go_ret;exact⟨_,rfl,HM.out⟩
structure zc6(w0 w:World)(R:Nat)(way:Int)(r:zat)(c:Lay):Prop where
 run:zah w R way r (wm r noP) c
 old:Below w0.heap.size w0 w
 feet:∀k,feet R c k->w0.heap.size<=k
section
variable {w0 w w1:World} {R:Nat} {way:Int} {r r1:zat} {c:Lay}
theorem zc6.below(h:zc6 w0 w R way r c)(hb:Below w.heap.size w w1):zc6 w0 w1 R way r c:=⟨h.run.below hb,h.old.trans (hb.mono h.old.size),h.feet⟩
theorem zc6.step(h:zc6 w0 w R way r c)(hs:zav w w1 R way c r1 (wm r1 noP)):∃c1,zc6 w0 w1 R way r1 c1:=by
 obtain⟨c1,h1,h2,h3⟩:=hs;refine⟨c1,h1,h.old.trans (h2.below h.old.size fun k hk hf=>?_),fun k hk=>?_⟩
 ·have:=h.feet k hf;omega
 ·rcases h3 k hk with h4 | h4
  ·exact h.feet k h4
  ·exact Nat.le_trans h.old.size h4
end
theorem znY(way:Int)(l:List Op3)(hop:∀o∈l,isOpB o=true):∀k,k<=l.length->sum6 (zaI way (l.take k)).behind<=k:=by
 intro k
 induction k with
 | zero=>intro _;exact Nat.le_refl _
 | succ k ih =>
   intro hk;have h1:=ih (by omega);have hg:=(zf7 way l hop k (by omega)).1;have e:zaI way (l.take (k+1))=zc5 way (zaI way (l.take k)) l[k]:=by unfold zaI;rw[List.take_succ_eq_append_getElem (by omega),List.foldl_append];rfl
   have ho:=hop _ (List.getElem_mem (show k<l.length by omega));obtain⟨a1,a6⟩:=za1 ho;rw[e];unfold zc5;split
   ·omega
   ·rename_i hout;split
    ·have:=zpq (f:=(zaI way (l.take k)).behind) l[k] a1 a6;show sum6 (setF _ _ _)<=k+1;omega
    ·rename_i hw;have hs:=zhR way 41 _ l[k] hg (by simpa using hout) (by simpa using hw) ho;have:=zdz hs.less;omega
theorem zlB(way:Int){l:List Op3}{k:Nat}(hk:k<l.length):zaI way (l.take (k+1))=zc5 way (zaI way (l.take k)) (opAt l k):=by unfold zaI;rw[zgd _ _ hk]
theorem zzm:zAf:=by
 intro l v way w hI;have HI0:=zag hI;by_cases hc:(chk l).2=0
 ·have HCK:=zag (check_ok l v w hI hc);have hop:∀o∈l,isOpB o=true:=zpv hc;have hlen:=zaQ hc;obtain⟨ad,b,off,cap,rfl,ha,-,hbB,hops⟩:=hI;by_cases hw:way<0\/2<way
  ·have HU:Hid (zbd l way=(([],[]),1)):=by show _=_;unfold zbd;rw[if_neg (by simpa using hc),if_pos hw]
   have h0:¬way=0:=by omega
   have h1:¬way=1:=by omega
   have h2:¬way=2:=by omega
   have g0:(way == 0)=false:=by simp[h0]
   have g1:(way == 1)=false:=by simp[h1]
   have g2:(way == 2)=false:=by simp[h2]
   have f0:(way != 0)=true:=by simp[h0]
   have f1:(way != 1)=true:=by simp[h1]
   have f2:(way != 2)=true:=by simp[h2]
   clear hc hw hop hlen ha hbB hops HI0;go_enter Tryz.func30,Tryz.ntmps30;go_wp2_with fail;refine HCK.out.mono ?_;rintro e w1 ⟨rfl,hb1⟩;go_wp2_with fail;go_ret3;rw[HU.out];exact⟨_,_,rfl,zef _,za5 _,hb1⟩
  ·have hway:way=0\/way=1\/way=2:=by omega
   have HU0:zbd l way=(((zaI way l).told,(zaI way l).vict),0):=by unfold zbd;rw[if_neg (by simpa using hc),if_neg hw]
   have HE:Hid (∀W,Below w.heap.size w W->∀k,k<l.length->ad=some ⟨b,off,none⟩/\b<w.heap.size/\W.cell? ⟨b,off+k*3,none⟩=some (.int .i64 (opAt l k).1)/\W.cell? ⟨b,off+k*3+1,none⟩=some (.int .i64 (opAt l k).2.1)/\W.cell? ⟨b,off+k*3+2,none⟩=some (.int .i64 (opAt l k).2.2)):=fun W hW k hk=>by
    refine⟨ha (by omega),?_,(hops.below hW hbB) k hk⟩;rcases hbB with h | h
    ·exact h
    ·subst h;simp at hk
   have HOP:=zag hop;have HNL0:∀W,Below w.heap.size w W->Calls Tryz.prog 82 #[.int .i64 way] W fun e w'=>∃R,e=.returned (.pointer (some ⟨R,0,none⟩))/\∃c,zc6 w w' R way zvR c:=fun W hW=>by refine(znf way W).mono ?_;rintro e w' ⟨R,rfl,c,h1,h2,h3⟩;exact⟨R,rfl,c,h1,hW.trans (h2.mono hW.size),fun k hk=>Nat.le_trans hW.size (h3 k hk)⟩
   obtain⟨wy,hwy⟩:∃wy,wy=way:=⟨_,rfl⟩;have HU:Hid (zbd l way=(((zaI wy l).told,(zaI wy l).vict),0)):=by rw[hwy];exact HU0
   have HWY:Hid (wy=0\/wy=1\/wy=2):=by rw[hwy];exact hway
   have HNL:Hid (∀W,Below w.heap.size w W->Calls Tryz.prog 82 #[.int .i64 way] W fun e w'=>∃R,e=.returned (.pointer (some ⟨R,0,none⟩))/\∃c,zc6 w w' R wy zvR c):=by rw[hwy];exact HNL0
   clear hc hw hop ha hbB hops HI0 HU0 HNL0 hwy;rcases hway with rfl | rfl | rfl
   all_goals
    go_enter Tryz.func30,Tryz.ntmps30;go_wp2_with fail;refine HCK.out.mono ?_;rintro e w1 ⟨rfl,hb1⟩;have HB1:=zag hb1;clear hb1;go_wp2_with fail;refine(HNL.out _ HB1.out).mono ?_;rintro e w2 ⟨R,rfl,c2,ho2⟩;have HO2:=zag ho2;clear ho2;go_wp2_with fail
    go_loopw [35] (fun v35 wr=>∃(k:Nat) (ck:Lay),k<=l.length/\v35=.int .i64 k/\zc6 w wr R wy (zaI wy (l.take k)) ck) (fun v35 _=>l.length-(intOf v35).toNat)
    case atStart=>exact⟨0,c2,Nat.zero_le _,rfl,HO2.out⟩
    case round =>
     obtain⟨k,ck,hk,rfl,hok⟩:=hrel;obtain⟨hgk,hpk⟩:=zf7 wy l HOP.out k hk;have hsk:=znY wy l HOP.out k hk;have hfk:=zmU wy l HOP.out k hk;obtain⟨rk,hrk⟩:∃rk,zaI wy (l.take k)=rk:=⟨_,rfl⟩;rw[hrk]at hok hgk hpk hsk hfk;have HOK:=zag hok;have HRK:=zag hrk;have HGK:Hid (zb5 rk/\pot rk<=k+6/\sum6 rk.behind<=k/\zbw rk noP):=⟨hgk,hpk,hsk,hfk⟩;clear hok hgk hpk hsk hfk hrk HO2;by_cases hlt:k<l.length
     ·have hlt':(k:Int)<(l.length:Int):=by omega
      obtain⟨rfl,hbw,e0,e1,e2⟩:=HE.out wr HOK.out.old k hlt;obtain⟨⟨t,a,i⟩,ho⟩:∃o:Op3,opAt l k=o:=⟨_,rfl⟩;have hiso:isOpB (t,a,i)=true:=by rw[<-ho];exact HOP.out _ (zal hlt)
      have HNX:Hid (zaI wy (l.take (k+1))=zc5 wy rk (t,a,i)):=by show _=_;rw[zlB wy hlt,HRK.out,ho]
      rw[ho]at e0 e1 e2;simp only at e0 e1 e2;have hbR:b<wr.heap.size:=Nat.lt_of_lt_of_le hbw HOK.out.old.size;have HCO:Hid (∀W,Below wr.heap.size wr W->Calls Tryz.prog 83 #[.pointer (some ⟨R,0,none⟩),.agg #[.int .i64 t,.int .i64 a,.int .i64 i]] W fun e w'=>e=.returned (.tuple #[])/\∃c1,zc6 w w' R wy (zc5 wy rk (t,a,i)) c1):=fun W hW=>by have h1:=HOK.out.below hW;refine(ztq HWY.out (o:=(t,a,i)) h1.run HGK.out.1 HGK.out.2.2.2 (by have:=HGK.out.2.1;omega) (by have:=HGK.out.2.2.1;omega) hiso).mono ?_;rintro e w' ⟨he,hst⟩;exact⟨he,h1.step hst⟩
      clear ho hiso;go_wp2_with fail;refine(HCO.out _ ((Below.refl _ wr).alloc (Nat.le_refl _) _)).mono ?_;rintro e w3 ⟨rfl,c3,ho3⟩;have HO3:=zag ho3;clear ho3 e0 e1 e2;go_wp2_with fail;go_roundw
      case rel=>exact⟨k+1,c3,by omega,by go_num,by rw[HNX.out];exact HO3.out⟩
      case measure=>simp[intOf];omega
     ·have hlt':¬(k:Int)<(l.length:Int):=by omega
      obtain rfl:k=l.length:=by omega
      have HEND:Hid (zaI wy l=rk):=by show _=_;rw[<-HRK.out,List.take_length]
      have k2:=HOK.out.run.c2;obtain⟨ad5,c5,e5,-⟩:=zad HOK.out.run.told;rw[e5]at k2;have hRr:=HOK.out.run.lt
      have HIN:Hid (Calls Tryz.prog 84 #[.pointer (some ⟨R,0,none⟩)] wr.drew fun e w'=>∃ad n q,e=.returned (.slice ad n q)/\w'.cell? ⟨R,2,none⟩=some (.slice ad5 rk.told.length c5)/\zaf w' (.slice ad n q) rk.vict/\zai w' (.slice ad5 rk.told.length c5) rk.told/\Below w.heap.size w w'):=by
       have h1:=HOK.out.below (Below.refl _ wr).drew;refine(znJ h1.run HGK.out.2.2.2 (by have:=HGK.out.1.vict;omega)).mono ?_;rintro e w' ⟨ad,n,q,rfl,hi,hb⟩;have h2:=h1.below hb;refine⟨ad,n,q,rfl,?_,hi,?_,h2.old⟩
       ·rw[<-e5];exact h2.run.c2
       ·rw[<-e5];exact zbH h2.run.told rfl
      have HK2:Hid (wr.drew.cell? ⟨R,2,none⟩=some (.slice ad5 rk.told.length c5)):=k2;clear e5;go_wp2_with fail
      go_region_held3 (fun w'=>w'.cell? ⟨R,2,none⟩=some (.slice ad5 rk.told.length c5)) (first | exact g2 | exact HK2.out) (first | (go_at_call 84;refine HIN.out.mono ?_;rintro e w3 ⟨ad3,n3,q3,rfl,g2,hi3,hp3,hb3⟩))
      all_goals
       go_wp2_with fail;go_ret3;rw[HU.out,HEND.out];exact⟨_,_,rfl,hp3,hi3,hb3⟩
 ·have HCK:=zag (check_bad l v w hI hc);have HU:Hid (zbd l way=(([],[]),(chk l).2)):=by show _=_;unfold zbd;rw[if_pos hc]
  have HER:=zag (zir hc);obtain⟨ad,b,off,cap,rfl,-⟩:=hI;clear hc HI0;go_enter Tryz.func30,Tryz.ntmps30;go_wp2_with fail;refine HCK.out.mono ?_;rintro e w1 ⟨rfl,hb1⟩;go_wp2_with fail;go_ret3;rw[HU.out];exact⟨_,_,by rw[HER.out];rfl,zef _,za5 _,hb1⟩
end Go.Proofs.YthlhgiihngcobaaGreatDoor
namespace Go.Proofs.YthlhgiihngcobaaGreatDoor
open Go.RowKit
def zp2(s:Stm):Prop:=(∀t,s.out t=decide (t∈s.vict))/\s.vict.Pairwise (·≠·)/\∀v∈s.vict,1<=v/\v<=6
theorem fitS0:zp2 zAK:=⟨fun t=>rfl,List.Pairwise.nil,fun v h=>by cases h⟩
theorem zp2.gone{s:Stm}{t:Int}(h:zp2 s)(ho:s.out t=false)(h1:1<=t)(h6:t<=6):zp2 (zg3 s t):=by
 obtain⟨a,b,c⟩:=h;have hn:t ∉ s.vict:=by have:=a t;rw[ho]at this;exact of_decide_eq_false this.symm
 refine⟨fun x=>?_,?_,fun v hv=>?_⟩
 ·show setF s.out t true x=decide (x∈s.vict++[t]);by_cases e:x=t
  ·subst e;rw[setF_same];simp
  ·rw[zaa _ _ e,a x];simp[e]
 ·show(s.vict++[t]).Pairwise _;refine List.pairwise_append.2 ⟨b,List.pairwise_singleton _ _,fun x hx y hy e=>?_⟩;rw[List.mem_singleton.1 hy]at e;exact hn (e ▸hx)
 ·rcases List.mem_append.1 hv with hv | hv
  ·exact c v hv
  ·rw[List.mem_singleton.1 hv];exact⟨h1,h6⟩
theorem zxi{leave:Bool}{s:Stm}{o:Op3}(h:zp2 s)(hop:isOpB o=true):zp2 (zb3 leave s o):=by
 obtain⟨h1,h6⟩:=za1 hop;unfold zb3;split
 ·exact h
 ·rename_i hout;split
  ·exact h.gone (by simpa using hout) h1 h6
  ·split
   ·exact h
   ·split
    ·split
     ·exact h
     ·exact h
    ·exact h
theorem zzG(leave:Bool)(l:List Op3)(hop:∀o∈l,isOpB o=true):∀k,k<=l.length->zp2 (zbf leave (l.take k)):=by
 intro k
 induction k with
 | zero=>intro _;exact fitS0
 | succ k ih =>
   intro hk;have e:zbf leave (l.take (k+1))=zb3 leave (zbf leave (l.take k)) l[k]:=by unfold zbf;rw[List.take_succ_eq_append_getElem (by omega),List.foldl_append];rfl
   rw[e];exact zxi (ih (by omega)) (hop _ (List.getElem_mem _))
def zcX(leave:Bool)(rd wr:Int->Int)(tv:Value)(A k:Nat):Value :=if k=0 then .bool leave else if k<15 then(if(k-1) % 2=0 then .int .i64 (rd (((k-1) / 2:Nat):Int))else .int .i64 (wr (((k-1) / 2:Nat):Int)))else if k=15 then tv else .map (some A)
def zbi(leave:Bool)(rd wr:Int->Int)(tv:Value)(A:Nat):Array Value:=((List.range 17).map (zcX leave rd wr tv A)).toArray
section
variable {leave:Bool} {rd wr rd' wr':Int->Int} {tv tv' u:Value} {A p:Nat}
theorem zee:(zbi leave rd wr tv A).size=17:=by simp[zbi]
theorem zez(k:Nat)(h:k<17):(zbi leave rd wr tv A)[k]? = some (zcX leave rd wr tv A k):=by simp[zbi,h]
theorem zfa(hp:p<17)(hh:zcX leave rd' wr' tv' A p=u)(he:∀k,k<17->k≠p->zcX leave rd' wr' tv' A k=zcX leave rd wr tv A k):(zbi leave rd wr tv A).setIfInBounds p u=zbi leave rd' wr' tv' A:=by
 refine Array.ext_getElem? fun j=>?_;by_cases hj:j<17
 ·rw[zez j hj,Array.getElem?_setIfInBounds,zee,zez j hj];by_cases e:p=j
  ·subst e;rw[if_pos rfl,if_pos hp,hh]
  ·rw[if_neg e,he j hj (fun h=>e h.symm)]
 ·rw[Array.getElem?_eq_none (by simp[zee];omega),Array.getElem?_eq_none (by simp[zee];omega)]
theorem zmI{x:Nat}(hx:x<7):zcX leave rd wr tv A (1+x*2)=.int .i64 (rd (x:Int)):=by unfold zcX;rw[if_neg (by omega),if_pos (by omega),if_pos (by omega),show(1+x*2-1) / 2=x by omega]
theorem zl2{x:Nat}(hx:x<7):zcX leave rd wr tv A (1+x*2+1)=.int .i64 (wr (x:Int)):=by unfold zcX;rw[if_neg (by omega),if_pos (by omega),if_neg (by omega),show(1+x*2+1-1) / 2=x by omega]
theorem zpW{x:Nat}(hx:x<7)(y:Int):(zbi leave rd wr tv A).setIfInBounds (1+x*2) (.int .i64 y)=zbi leave (setF rd (x:Int) y) wr tv A:=by
 refine zfa (by omega) (by rw[zmI hx,setF_same]) fun k hk hne=>?_;unfold zcX;by_cases h0:k=0
 ·rw[if_pos h0,if_pos h0]
 ·by_cases h1:k<15
  ·by_cases h2:(k-1) % 2=0
   ·rw[if_neg h0,if_neg h0,if_pos h1,if_pos h1,if_pos h2,if_pos h2,zaa _ _ (by omega)]
   ·rw[if_neg h0,if_neg h0,if_pos h1,if_pos h1,if_neg h2,if_neg h2]
  ·rw[if_neg h0,if_neg h0,if_neg h1,if_neg h1]
theorem zp6{x:Nat}(hx:x<7)(y:Int):(zbi leave rd wr tv A).setIfInBounds (1+x*2+1) (.int .i64 y)=zbi leave rd (setF wr (x:Int) y) tv A:=by
 refine zfa (by omega) (by rw[zl2 hx,setF_same]) fun k hk hne=>?_;unfold zcX;by_cases h0:k=0
 ·rw[if_pos h0,if_pos h0]
 ·by_cases h1:k<15
  ·by_cases h2:(k-1) % 2=0
   ·rw[if_neg h0,if_neg h0,if_pos h1,if_pos h1,if_pos h2,if_pos h2]
   ·rw[if_neg h0,if_neg h0,if_pos h1,if_pos h1,if_neg h2,if_neg h2,zaa _ _ (by omega)]
  ·rw[if_neg h0,if_neg h0,if_neg h1,if_neg h1]
theorem zmG:(zbi leave rd wr tv A).setIfInBounds 15 u=zbi leave rd wr u A:=by
 refine zfa (by omega) (by unfold zcX;rw[if_neg (by omega),if_neg (by omega),if_pos rfl]) fun k hk hne=>?_;unfold zcX;by_cases h0:k=0
 ·rw[if_pos h0,if_pos h0]
 ·by_cases h1:k<15
  ·rw[if_neg h0,if_neg h0,if_pos h1,if_pos h1]
  ·rw[if_neg h0,if_neg h0,if_neg h1,if_neg h1,if_neg hne,if_neg hne]
end
structure zar(w0 w:World)(R A:Nat)(leave:Bool)(s:Stm)(tv:Value):Prop where
 blk:w.heap[R]? = some (.cells (zbi leave s.rd s.wr tv A) 160 (0,0))
 told:w.ownsRow w0.heap.size 103 3 tv s.told.length (flat s.told)
 outs:zax w A (zbt s.vict) s.vict.length
 old:Below w0.heap.size w0 w
 newR:w0.heap.size<=R
 newA:w0.heap.size<=A
 hRA:R≠A
 tR:¬tv.ownBlock=some R
 tA:¬tv.ownBlock=some A
section
variable {w0 w w1:World} {R A:Nat} {leave:Bool} {s:Stm} {tv:Value}
theorem zar.lt(h:zar w0 w R A leave s tv):R<w.heap.size:=(Array.getElem?_eq_some_iff.1 h.blk).1
theorem zar.cell(h:zar w0 w R A leave s tv){k:Nat}(hk:k<17):w.cell? ⟨R,k,none⟩=some (zcX leave s.rd s.wr tv A k):=by rw[cell_of_row w R _ _ _ _ h.blk,zez k hk]
theorem zar.c0(h:zar w0 w R A leave s tv):w.cell? ⟨R,0,none⟩=some (.bool leave):=h.cell (by omega)
theorem zar.cr(h:zar w0 w R A leave s tv){x:Nat}(hx:x<7):w.cell? ⟨R,1+x*2,none⟩=some (.int .i64 (s.rd (x:Int))):=by rw[h.cell (by omega),zmI hx]
theorem zar.cw(h:zar w0 w R A leave s tv){x:Nat}(hx:x<7):w.cell? ⟨R,1+x*2+1,none⟩=some (.int .i64 (s.wr (x:Int))):=by rw[h.cell (by omega),zl2 hx]
theorem zar.c15(h:zar w0 w R A leave s tv):w.cell? ⟨R,15,none⟩=some tv:=h.cell (by omega)
theorem zar.c16(h:zar w0 w R A leave s tv):w.cell? ⟨R,16,none⟩=some (.map (some A)):=h.cell (by omega)
theorem zar.thaw(h:zar w0 w R A leave s tv)(k:Nat):w.frozen? ⟨R,k,none⟩=false:=by simp[World.frozen?,h.blk]
theorem zar.later(h:zar w0 w R A leave s tv)(hb:Below w.heap.size w w1):zar w0 w1 R A leave s tv :=
 have ht:zac (fun _=>False) w w1:=zac.of_below hb
 ⟨(hb.block R h.lt).trans h.blk,ht.own h.told (fun _ _ hf=>hf),h.outs.turn ht (fun hf=>hf),h.old.trans (hb.mono h.old.size),h.newR,h.newA,h.hRA,h.tR,h.tA⟩
theorem zar.cellT(h:zar w0 w R A leave s tv){q:Nat}{u:Value}{s':Stm}{rd wr:Int->Int}(hc:(zbi leave s.rd s.wr tv A).setIfInBounds q u=zbi leave rd wr tv A)(hs:s'={ s with rd:=rd,wr:=wr }):zar w0 (w.setCell ⟨R,q,none⟩ u) R A leave s' tv:=by
 subst hs;have ht:zac (fun k=>k=R) w (w.setCell ⟨R,q,none⟩ u):=by refine zac.setCell (zac.refl _ w) ?_ _;exact .inl rfl
 refine⟨by rw[za9 h.blk,hc],ht.own h.told (fun k hk e=>h.tR (e ▸hk)),h.outs.turn ht (fun e=>h.hRA e.symm),h.old.setCell h.newR _,h.newR,h.newA,h.hRA,h.tR,h.tA⟩
theorem zar.setRd(h:zar w0 w R A leave s tv){x:Nat}(hx:x<7)(y:Int):zar w0 (w.setCell ⟨R,1+x*2,none⟩ (.int .i64 y)) R A leave { s with rd:=setF s.rd (x:Int) y } tv:=h.cellT (zpW hx y) rfl
theorem zar.setWr(h:zar w0 w R A leave s tv){x:Nat}(hx:x<7)(y:Int):zar w0 (w.setCell ⟨R,1+x*2+1,none⟩ (.int .i64 y)) R A leave { s with wr:=setF s.wr (x:Int) y } tv:=h.cellT (zp6 hx y) rfl
theorem zar.push{v:Value}{x:Op3}(h:zar w0 w R A leave s tv)(ht:zac (fun k=>tv.ownBlock=some k) w w1)(hv:w1.ownsRow w0.heap.size 103 3 v (s.told.length+1) (flat s.told++flat [x]))(hap:∀q,v.ownBlock=some q->tv.ownBlock=some q\/w.heap.size<=q):w1.cell? ⟨R,15,none⟩=some tv/\w1.frozen? ⟨R,15,none⟩=false/\zar w0 (w1.setCell ⟨R,15,none⟩ v) R A leave { s with told:=s.told++[x] } v:=by
 have hb1:w1.heap[R]? = some (.cells (zbi leave s.rd s.wr tv A) 160 (0,0)):=(ht.block R h.lt h.tR).trans h.blk
 have hR:¬v.ownBlock=some R:=fun e=>by
  rcases hap R e with h1 | h1
  ·exact h.tR h1
  ·have:=h.lt;omega
 have hA:¬v.ownBlock=some A:=fun e=>by
  rcases hap A e with h1 | h1
  ·exact h.tA h1
  ·have:=h.outs.lt;omega
 have hset:zac (fun k=>k=R) w1 (w1.setCell ⟨R,15,none⟩ v):=by refine zac.setCell (zac.refl _ w1) ?_ _;exact .inl rfl
 refine⟨by rw[cell_of_row w1 R _ _ _ _ hb1,zez 15 (by omega)];rfl,by simp[World.frozen?,hb1],⟨?_,?_,?_,?_,h.newR,h.newA,h.hRA,hR,hA⟩⟩
 ·rw[za9 hb1,zmG]
 ·show World.ownsRow _ _ _ _ v (s.told++[x]).length (flat (s.told++[x]));rw[List.length_append,zaP];exact hset.own hv fun q hq e=>hR (e ▸hq)
 ·exact(h.outs.turn ht h.tA).turn hset (fun e=>h.hRA e.symm)
 ·refine(h.old.trans (ht.below h.old.size fun k hk hf=>?_)).setCell h.newR _;have:=(h.told.lt k hf).1;omega
theorem zar.tellD{w2:World}{x:Op3}{ob:Obj}{ad:Option Addr}{n q:Nat}{v2:Value}(h:zar w0 w R A leave s tv)(e:tv=.slice ad n q)(hn:s.told.length=n)(hown:w2.ownsRow w0.heap.size 103 3 v2 (n+1) (flat s.told++flat [x]))(hgr:(w.drew.alloc ob).grownBy w2 (Value.slice ad n q).ownBlock)(hap:∀k,v2.ownBlock=some k->(Value.slice ad n q).ownBlock=some k\/(w.drew.alloc ob).heap.size<=k):w2.cell? ⟨R,15,none⟩=some (.slice ad n q)/\w2.frozen? ⟨R,15,none⟩=false/\zar w0 (w2.setCell ⟨R,15,none⟩ v2) R A leave { s with told:=s.told++[x] } v2:=by
 have htu:zac (fun k=>tv.ownBlock=some k) w w2:=by rw[e];exact zbx hgr
 rw[<-e]
 exact h.push htu (by rw[hn];exact hown) fun k hk=>by
  rcases apart_later hap k hk with h1 | h1
  ·exact .inl (by rw[e];exact h1)
  ·exact .inr h1
theorem zar.setOuts{l:List Int}{f:Int->Bool}(h:zar w0 w R A leave s tv)(hp:zax w1 A (zbt l) l.length)(ht:zac (fun k=>k=A) w w1):zar w0 w1 R A leave { s with vict:=l,out:=f } tv :=⟨(ht.block R h.lt h.hRA).trans h.blk,ht.own h.told (fun k hk e=>h.tA (e ▸hk)),hp,h.old.trans (ht.below h.old.size fun k hk e=>by have:=h.newA;omega),h.newR,h.newA,h.hRA,h.tR,h.tA⟩
end
theorem ztI(w0 w:World)(hb:Below w0.heap.size w0 w)(leave:Bool):zar w0 ((w.alloc (.map #[] 0)).alloc (.cells (zbi leave (fun _=>0) (fun _=>0) (.slice none 0 0) w.heap.size) 160)) (w.heap.size+1) w.heap.size leave zAK (.slice none 0 0):=by
 obtain⟨W1,hW1⟩:∃W,W=w.alloc (.map #[] 0):=⟨_,rfl⟩;obtain⟨W2,hW2⟩:∃W,W=W1.alloc (.cells (zbi leave (fun _=>0) (fun _=>0) (.slice none 0 0) w.heap.size) 160):=⟨_,rfl⟩;have s1:W1.heap.size=w.heap.size+1:=by rw[hW1];simp
 have t1:zac (fun _=>False) w W1:=by rw[hW1];exact(zac.refl _ w).alloc _
 have t2:zac (fun _=>False) W1 W2:=by rw[hW2];exact(zac.refl _ W1).alloc _
 have m1:zax W1 w.heap.size (fun _=>none) 0:=by rw[hW1];exact zca w
 have hs:=hb.size;rw[<-hW1,<-hW2];refine⟨?_,World.ownsRow_nil _ _ _ _,m1.turn t2 (fun hf=>hf),hb.trans ((t1.trans t2 fun _ _ hf=>hf).below hs fun _ _ hf=>hf),by omega,hs,by omega,by simp[Value.ownBlock],by simp[Value.ownBlock]⟩;rw[hW2,<-s1];exact heap_alloc_new W1 _
theorem znb(leave:Bool)(A:Nat):zbi leave (fun _=>0) (fun _=>0) (.slice none 0 0) A=#[.bool leave,.int .i64 0,.int .i64 0,.int .i64 0,.int .i64 0,.int .i64 0,.int .i64 0,.int .i64 0,.int .i64 0,.int .i64 0,.int .i64 0,.int .i64 0,.int .i64 0,.int .i64 0,.int .i64 0,.slice none 0 0,.map (some A)]:=rfl
end Go.Proofs.YthlhgiihngcobaaGreatDoor
