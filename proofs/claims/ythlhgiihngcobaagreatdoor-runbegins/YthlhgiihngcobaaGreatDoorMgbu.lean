/-
  PROVED HERE: package course; append on a row of one's own, of nothing or of another slice, and where the row lies then; package course; package course.
  Conditions: none but those that each theorem's own premises say.
-/
import Derived.Test.YthlhgiihngcobaaGreatDoorMgbt
import Derived.Test.YthlhgiihngcobaaGreatDoorMgbh
import Derived.Test.YthlhgiihngcobaaGreatDoorMgag
import Derived.Laws.OwnMore
set_option maxHeartbeats 32000000
set_option maxRecDepth 100000
namespace Go.Proofs.YthlhgiihngcobaaGreatDoor
open Go.RowKit
theorem zth{W:World}{Q:Nat}{x:Op3}(k0:W.cell? ⟨Q,0,none⟩=some (.int .i64 x.1))(k1:W.cell? ⟨Q,1,none⟩=some (.int .i64 x.2.1))(k2:W.cell? ⟨Q,2,none⟩=some (.int .i64 x.2.2)):∀j u,(flat [x])[j]? = some u->W.cell? ((⟨Q,0,none⟩:Addr).add j)=some u:=by
 intro j u hj;rw[Addr.add_lit];obtain⟨a,b,c⟩:=x;rcases j with _ | _ | _ | j
 ·simp[flat]at hj;subst hj;simpa using k0
 ·simp[flat]at hj;subst hj;simpa using k1
 ·simp[flat]at hj;subst hj;simpa using k2
 ·simp[flat]at hj
theorem zlU(w:World)(x:Op3)(t:TypeId):∀j u,(flat [x])[j]? = some u->(w.alloc (.cells #[.int .i64 x.1,.int .i64 x.2.1,.int .i64 x.2.2] t)).cell? ((⟨w.heap.size,0,none⟩:Addr).add j)=some u :=zth (by simp) (by simp) (by simp)
theorem znL{V w4:World}{cs:Array Value}{T:TypeId}(h:Below (V.alloc (.cells cs T)).drew.heap.size (V.alloc (.cells cs T)).drew w4)(k:Nat):w4.frozen? ⟨V.heap.size,k,none⟩=false:=by have h1:w4.heap[V.heap.size]? = some (.cells cs T (0,0)):=(h.block V.heap.size (by simp)).trans (World.alloc_heap_new V (.cells cs T));simp[World.frozen?,h1]
theorem zw6{W:World}{Q:Nat}(a b c:Int){x y z:Value}(z0:W.cell? ⟨Q,0,none⟩=some x)(z1:W.cell? ⟨Q,1,none⟩=some y)(z2:W.cell? ⟨Q,2,none⟩=some z):zdl (((W.setCell ⟨Q,0,none⟩ (.int .i64 a)).setCell ⟨Q,1,none⟩ (.int .i64 b)).setCell ⟨Q,2,none⟩ (.int .i64 c)) Q a b c:=by
 have n01:(⟨Q,0,none⟩:Addr)≠⟨Q,1,none⟩:=by intro e;injection e with _ e _;omega
 have n02:(⟨Q,0,none⟩:Addr)≠⟨Q,2,none⟩:=by intro e;injection e with _ e _;omega
 have n12:(⟨Q,1,none⟩:Addr)≠⟨Q,2,none⟩:=by intro e;injection e with _ e _;omega
 refine⟨?_,?_,?_⟩
 ·rw[World.cell?_setCell_other _ _ _ _ n02.symm,World.cell?_setCell_other _ _ _ _ n01.symm];exact World.cell?_setCell_same' _ _ _ (by rw[z0];rfl)
 ·rw[World.cell?_setCell_other _ _ _ _ n12.symm];exact World.cell?_setCell_same' _ _ _ (by rw[World.cell?_setCell_other _ _ _ _ n01,z1];rfl)
 ·exact World.cell?_setCell_same' _ _ _ (by rw[World.cell?_setCell_other _ _ _ _ n12,World.cell?_setCell_other _ _ _ _ n02,z2];rfl)
theorem zvo{NS:Nat}{seesF:Crs->Int->Int->Int}(hcall:zbB NS)(hS:zk7 NS seesF){w0 w:World}{R:Nat}{F:Value}{q:Crs}{c:zbZ}(h:zaq w0 w R (.func (.func NS) #[] #[]) F q c)(hq:zaR 999 q){t:Int}(i:Int)(h1:1<=t)(h6:t<=6):Calls Tryz.prog 161 #[.pointer (some ⟨R,0,none⟩),.agg #[.int .i64 t,.int .i64 1,.int .i64 i]] w fun e w'=>e=.returned (.tuple #[])/\zcZ w0 w' R (.func (.func NS) #[] #[]) F (readQ (begQ q t) (t,i,zvV seesF (begQ q t) t i)):=by
 have HL:=zae h;have HQ:=zae (hq.beg t);have HBG:=zae (zfn (h.alloc (.cells #[.int .i64 t,.int .i64 1,.int .i64 i] 103)) h1 h6)
 have hbt:((begQ q t).began t).isSome=true:=by
  unfold begQ;split
  ·assumption
  ·show(setF q.began t (some q.done.length) t).isSome=true;rw[setF_same];rfl
 obtain⟨q1,hq1⟩:∃q1,begQ q t=q1:=⟨_,rfl⟩;rw[hq1]at HBG HQ hbt ⊢;have HSR:Hid (∀W,zaq w0 W R (.func (.func NS) #[] #[]) F q1 c->Calls Tryz.prog 205 #[.pointer (some ⟨R,0,none⟩),.agg #[.int .i64 t,.int .i64 1,.int .i64 i]] W fun e w'=>e=.returned (.int .i64 (zvV seesF q1 t i))/\Below W.heap.size W w'):=fun W hW=>zp7 hcall hS hW HQ.out.more 1 i h1 h6 hbt;obtain⟨f,hf⟩:∃f,zvV seesF q1 t i=f:=⟨_,rfl⟩;rw[hf]at HSR ⊢;obtain⟨i0,hi,hz0,hs0,hy0⟩:=info_parts zhK;have HI:Hid (Tryz.prog.info? 230=some i0/\i0.zero=some (.agg #[.int .i64 0,.int .i64 0,.int .i64 0])/\i0.size=3/\i0.bytes=24):=⟨hi,hz0,hs0,hy0⟩;obtain⟨dt,hdt⟩:∃d:Nat,t=d:=⟨t.toNat,by omega⟩;have hwf:=zaX h1 h6;have HT:Hid (1<=t/\t<=6/\t=dt/\dt<7):=⟨h1,h6,hdt,by omega⟩;clear h hq1 hi hz0 hs0 hy0 hq h1 h6 hdt hS hbt hf hcall;go_enter Tryz.func161,Tryz.ntmps161;go_wp2_with fail;refine HBG.out.mono ?_;rintro e V ⟨rfl,hc1,ht1⟩;obtain⟨hbx,hap⟩:=zfP HL.out ht1;have HAP:=zae hap;obtain⟨P,hP⟩:∃P,P=w.heap.size:=⟨_,rfl⟩;rw[<-hP]at hbx HAP;have HBX:=zae hbx;obtain⟨p0,p1,p2⟩:=hbx;have HY:=zae hc1;have hPV:=HBX.out.lt;rw[<-hP];clear hc1 ht1 hap hP;have HSV:Hid (∀W,Below V.heap.size V W->Calls Tryz.prog 205 #[.pointer (some ⟨R,0,none⟩),.agg #[.int .i64 t,.int .i64 1,.int .i64 i]] W fun e w'=>e=.returned (.int .i64 f)/\Below W.heap.size W w'):=fun W hW=>HSR.out W (HY.out.below hW);have HKB:Hid (∀W,Below V.heap.size V W->W.cell? ⟨P,0,none⟩=some (.int .i64 t)/\W.cell? ⟨P,1,none⟩=some (.int .i64 1)/\W.cell? ⟨P,2,none⟩=some (.int .i64 i)):=fun W hW=>⟨(HBX.out.below hW).p0,(HBX.out.below hW).p1,(HBX.out.below hW).p2⟩;go_wp2_with fail
 go_region_held3 (fun w'=>w'.cell? ⟨P,0,none⟩=some (.int .i64 t)/\w'.cell? ⟨P,1,none⟩=some (.int .i64 1)/\w'.cell? ⟨P,2,none⟩=some (.int .i64 i)) (first | exact HKB.out _ hb4 | exact HKB.out _ hb5 | exact HKB.out _ (hb4.alloc hb4.size _) | exact HKB.out _ (((hb5.setCell (Nat.le_refl _) _).setCell (Nat.le_refl _) _).setCell (Nat.le_refl _) _) | exact HKB.out _ (Below.refl _ V).drew | exact HKB.out _ ((Below.refl _ V).drew.alloc (Nat.le_refl _) _)) (first | (go_at_call 205;refine(HSV.out _ (Below.refl _ V).drew).mono ?_;rintro e w4 ⟨rfl,hb3⟩;have hb4:Below V.heap.size V w4:=(Below.refl _ V).drew.trans hb3;clear hb3) | (go_at_call 205;refine(HSV.out _ ((Below.refl _ V).alloc (Nat.le_refl _) _).drew).mono ?_;rintro e w4 ⟨rfl,hb3⟩;have hb5:Below V.heap.size V w4:=((Below.refl _ V).alloc (Nat.le_refl _) _).drew.trans (hb3.mono (by simp));have z0:w4.cell? ⟨V.heap.size,0,none⟩=some (.int .i64 0):=(hb3.cell (p:=⟨V.heap.size,0,none⟩) (by simp)).trans (by simp);have z1:w4.cell? ⟨V.heap.size,1,none⟩=some (.int .i64 0):=(hb3.cell (p:=⟨V.heap.size,1,none⟩) (by simp)).trans (by simp);have z2:w4.cell? ⟨V.heap.size,2,none⟩=some (.int .i64 0):=(hb3.cell (p:=⟨V.heap.size,2,none⟩) (by simp)).trans (by simp);have y0:∀k,w4.frozen? ⟨V.heap.size,k,none⟩=false:=fun k=>znL hb3 k;clear hb3))
 ·have hU:Below V.heap.size V (w4.alloc (.cells #[.int .i64 t,.int .i64 i,.int .i64 f] 230)):=hb4.alloc hb4.size _;have hbq:zdl (w4.alloc (.cells #[.int .i64 t,.int .i64 i,.int .i64 f] 230)) w4.heap.size t i f:=zgz _ _ _ _ _;have hQV:=hb4.size;obtain⟨U,eU⟩:∃U,U=w4.alloc (.cells #[.int .i64 t,.int .i64 i,.int .i64 f] 230):=⟨_,rfl⟩;obtain⟨Q,eQ⟩:∃Q,Q=w4.heap.size:=⟨_,rfl⟩;rw[<-eU]at hU hbq ⊢;rw[<-eQ]at hbq hQV ⊢;clear eU eQ hb4;have HQB:=zae hbq;obtain⟨q0,q1c,q2⟩:=hbq;have HU:=zae (HY.out.below hU);have HAQ:Hid (∀j k,j<19->zbF R c j k->k≠Q):=fun j k hj hk e=>by have:=HY.out.part_lt j k hj hk;omega
  have HBU:=zae (HBX.out.below hU);obtain⟨o0,o1,o2⟩:=HBX.out.below hU;have hRV:=HU.out.lt;have hPV2:=HBU.out.lt;have hQV2:=HQB.out.lt;clear hU hQV p0 p1 p2 hPV HKB HSV;obtain⟨m5,hm5⟩:=HU.out.rd;have k5:=HU.out.c4;obtain⟨ad5,c5,e5,-⟩:=zad (HU.out.rrow dt HT.out.2.2.2);rw[<-HT.out.2.2.1]at e5;obtain⟨n5,hn5⟩:∃n,(q1.read t).length=n:=⟨_,rfl⟩;have hl5:=HQ.out.lenR t;rw[hn5]at e5 hl5;have hbv:(c.hr t).getD (.slice none 0 0)=.slice ad5 n5 c5:=e5;have HV:Hid (U.ownsRow w0.heap.size 230 3 (.slice ad5 n5 c5) n5 (flat (q1.read t))):=by show World.ownsRow _ _ _ _ _ _ _;have:=HU.out.rrow dt HT.out.2.2.2;rw[<-HT.out.2.2.1,e5,hn5]at this;exact this
  have hlk0:(Instr.lookup 221 (.map (some c.D)) (.int .i64 t) false).run Tryz.prog U.drew=.ok (.slice ad5 n5 c5) U.drew:=by have:=(zax.drew hm5).look false Tryz.underlying221 (zbs _) hwf;rw[hbv]at this;exact this
  have hlk1:∀ob:Obj,(Instr.lookup 221 (.map (some c.D)) (.int .i64 t) false).run Tryz.prog (U.drew.alloc ob)=.ok (.slice ad5 n5 c5) (U.drew.alloc ob):=fun ob=>by have h2:zax (U.drew.alloc ob) c.D c.hr m5:=hm5.turn (zac.alloc (zac.drew (zac.refl (fun _=>False) U)) ob) fun hf=>hf;have:=h2.look false Tryz.underlying221 (zbs _) hwf;rw[hbv]at this;exact this
  have hlk2:∀ob:Obj,(Instr.lookup 221 (.map (some c.D)) (.int .i64 t) false).run Tryz.prog (U.alloc ob).drew=.ok (.slice ad5 n5 c5) (U.alloc ob).drew:=fun ob=>by have h2:zax (U.alloc ob).drew c.D c.hr m5:=hm5.turn (zac.drew (zac.alloc (zac.refl (fun _=>False) U) ob)) fun hf=>hf;have:=h2.look false Tryz.underlying221 (zbs _) hwf;rw[hbv]at this;exact this
  have HSZ:Hid (w0.heap.size<=U.heap.size):=HU.out.old.size
  have HPT:Hid (∀v2 w2 (ob:Obj),w2.ownsRow w0.heap.size 230 3 v2 (n5+1) (flat (q1.read t)++flat [(t,i,f)])->(U.drew.alloc ob).grownBy w2 (Value.slice ad5 n5 c5).ownBlock->(∀k,v2.ownBlock=some k->(Value.slice ad5 n5 c5).ownBlock=some k\/(U.drew.alloc ob).heap.size<=k) ->
    (w2.cell? ⟨R,4,none⟩=some (.map (some c.D))/\w2.cell? ⟨P,0,none⟩=some (.int .i64 t)/\w2.cell? ⟨Q,0,none⟩=some (.int .i64 t)/\w2.cell? ⟨Q,1,none⟩=some (.int .i64 i)/\w2.cell? ⟨Q,2,none⟩=some (.int .i64 f))/\∃X,(X.cell? ⟨R,4,none⟩=some (.map (some c.D))/\X.cell? ⟨P,0,none⟩=some (.int .i64 t)/\X.cell? ⟨Q,0,none⟩=some (.int .i64 t)/\X.cell? ⟨Q,1,none⟩=some (.int .i64 i)/\X.cell? ⟨Q,2,none⟩=some (.int .i64 f))/\(Instr.mapUpdate 221 (.map (some c.D)) (.int .i64 t) v2).run Tryz.prog w2=.ok () X/\zcZ w0 X R (.func (.func NS) #[] #[]) F (readQ q1 (t,i,f))):=fun v2 w2 ob h1 h2 h3=>by
   have htu:zac (fun k=>(c.rv t).ownBlock=some k) U w2:=by rw[e5];exact zbx h2
   have hd7:=HT.out.2.2.2;have hpw:∀k,(c.rv t).ownBlock=some k->zbF R c (dt+5) k:=fun k hk=>(zcm R c hd7 k).2 (by rw[<-HT.out.2.2.1];exact hk);have hnR:¬(c.rv t).ownBlock=some R:=fun e=>HU.out.apart 0 (dt+5) R (by omega) (by omega) (by omega) rfl (hpw R e);have hnP:¬(c.rv t).ownBlock=some P:=fun e=>HAP.out (dt+5) P (by omega) (hpw P e) rfl;have hnQ:¬(c.rv t).ownBlock=some Q:=fun e=>HAQ.out (dt+5) Q (by omega) (hpw Q e) rfl;have hnW:¬(c.rv t).ownBlock=some c.D:=fun e=>HU.out.apart 3 (dt+5) c.D (by omega) (by omega) (by omega) rfl (hpw c.D e);obtain⟨X,hup,hmX,htX⟩:=(hm5.turn htu hnW).store (v:=v2) Tryz.underlying221 HT.out.1 HT.out.2.1;have f0:=(htu.cell (p:=⟨R,4,none⟩) HU.out.lt hnR).trans HU.out.c4;have f1:=HBU.out.turn htu hnP;have f3:=HQB.out.turn htu hnQ;have hBR:¬R=c.D:=fun e=>HU.out.apart 0 3 R (by omega) (by omega) (by omega) rfl e;have hBP:¬P=c.D:=fun e=>HAP.out 3 c.D (by omega) rfl e.symm;have hBQ:¬Q=c.D:=fun e=>HAQ.out 3 c.D (by omega) rfl e.symm;have f2:=f1.turn htX hBP;have f4:=f3.turn htX hBQ;refine⟨⟨f0,f1.p0,f3.p0,f3.p1,f3.p2⟩,X,⟨(htX.cell (p:=⟨R,4,none⟩) (World.block_lt_of_cell? w2 _ f0) hBR).trans f0,f2.p0,f4.p0,f4.p1,f4.p2⟩,hup,⟨{ c with hr:=setF c.hr (dt:Int) (some v2) },?_⟩⟩;have ht':=HT.out.2.2.1;rw[ht']at htu hmX h1 hn5 e5 ⊢;refine HU.out.pushRead (w2:=w2) (x:=((dt:Int),i,f)) hd7 rfl htu hmX htX (by rw[hn5];exact h1) fun k hk=>?_;rcases apart_later h3 k hk with h4 | h4
   ·exact .inl (by rw[e5];exact h4)
   ·exact .inr h4
  have HK5:Hid (U.drew.cell? ⟨R,4,none⟩=some (.map (some c.D))/\U.drew.cell? ⟨P,0,none⟩=some (.int .i64 t)/\U.drew.cell? ⟨Q,0,none⟩=some (.int .i64 t)/\U.drew.cell? ⟨Q,1,none⟩=some (.int .i64 i)/\U.drew.cell? ⟨Q,2,none⟩=some (.int .i64 f)):=⟨k5,o0,q0,q1c,q2⟩;have HK6:Hid (∀ob:Obj,(U.drew.alloc ob).cell? ⟨R,4,none⟩=some (.map (some c.D))/\(U.drew.alloc ob).cell? ⟨P,0,none⟩=some (.int .i64 t)/\(U.drew.alloc ob).cell? ⟨Q,0,none⟩=some (.int .i64 t)/\(U.drew.alloc ob).cell? ⟨Q,1,none⟩=some (.int .i64 i)/\(U.drew.alloc ob).cell? ⟨Q,2,none⟩=some (.int .i64 f)):=fun ob =>⟨(World.cell?_alloc_lt U.drew ob ⟨R,4,none⟩ hRV).trans k5,(World.cell?_alloc_lt U.drew ob ⟨P,0,none⟩ hPV2).trans o0,(World.cell?_alloc_lt U.drew ob ⟨Q,0,none⟩ hQV2).trans q0,(World.cell?_alloc_lt U.drew ob ⟨Q,1,none⟩ hQV2).trans q1c,(World.cell?_alloc_lt U.drew ob ⟨Q,2,none⟩ hQV2).trans q2⟩;clear hm5 e5 hn5 hbv;go_wp2_with fail
  go_region_held3 (fun w'=>w'.cell? ⟨R,4,none⟩=some (.map (some c.D))/\w'.cell? ⟨P,0,none⟩=some (.int .i64 t)/\w'.cell? ⟨Q,0,none⟩=some (.int .i64 t)/\w'.cell? ⟨Q,1,none⟩=some (.int .i64 i)/\w'.cell? ⟨Q,2,none⟩=some (.int .i64 f)) (first | exact gX | exact g0 | exact HK5.out | exact HK6.out _) (first | (refine zaB rfl (.tmp 33) (.tmp 35) 75 rfl w0.heap.size 230 i0 (.agg #[.int .i64 0,.int .i64 0,.int .i64 0]) 3 24 Tryz.underlying75 HI.out.1 HI.out.2.1 HI.out.2.2.1 HI.out.2.2.2 rfl (by decide) (.slice ad5 n5 c5) n5 (flat (q1.read t)) (by simp[Act.eval]) (HV.out.alloc _) ⟨U.heap.size,0,none⟩ 1 1 (flat [(t,i,f)]) (by simp[Act.eval]) rfl (zlU U (t,i,f) _) (zba _) (by unfold maxLen;omega) (by omega) (by have:=HSZ.out;simp;omega) ?_;intro v2 w2 hown2 hgr2 hap2;obtain⟨g0,X,gX,hup,g2⟩:=HPT.out v2 w2 _ hown2 hgr2 hap2;clear hap2 hgr2;obtain⟨ad6,c6,rfl,-⟩:=zad hown2;have HK2:=zae g2;clear g2 hown2))
  all_goals
   go_wp2_with fail;go_end0;exact⟨rfl,HK2.out⟩
 ·have hU:Below V.heap.size V (((w4.setCell ⟨V.heap.size,0,none⟩ (.int .i64 t)).setCell ⟨V.heap.size,1,none⟩ (.int .i64 i)).setCell ⟨V.heap.size,2,none⟩ (.int .i64 f)):=((hb5.setCell (Nat.le_refl _) _).setCell (Nat.le_refl _) _).setCell (Nat.le_refl _) _;have hbq:=zw6 t i f z0 z1 z2;have hQV:=Nat.le_refl V.heap.size;obtain⟨U,eU⟩:∃U,U=((w4.setCell ⟨V.heap.size,0,none⟩ (.int .i64 t)).setCell ⟨V.heap.size,1,none⟩ (.int .i64 i)).setCell ⟨V.heap.size,2,none⟩ (.int .i64 f):=⟨_,rfl⟩;rw[<-eU]at hU hbq ⊢;obtain⟨Q,eQ,hQV⟩:∃Q,Q=V.heap.size/\V.heap.size<=Q:=⟨_,rfl,Nat.le_refl _⟩;rw[<-eQ]at hbq ⊢;clear eU eQ hb5 z0 z1 z2 y0;have HQB:=zae hbq;obtain⟨q0,q1c,q2⟩:=hbq;have HU:=zae (HY.out.below hU);have HAQ:Hid (∀j k,j<19->zbF R c j k->k≠Q):=fun j k hj hk e=>by have:=HY.out.part_lt j k hj hk;omega
  have HBU:=zae (HBX.out.below hU);obtain⟨o0,o1,o2⟩:=HBX.out.below hU;have hRV:=HU.out.lt;have hPV2:=HBU.out.lt;have hQV2:=HQB.out.lt;clear hU hQV p0 p1 p2 hPV HKB HSV;obtain⟨m5,hm5⟩:=HU.out.rd;have k5:=HU.out.c4;obtain⟨ad5,c5,e5,-⟩:=zad (HU.out.rrow dt HT.out.2.2.2);rw[<-HT.out.2.2.1]at e5;obtain⟨n5,hn5⟩:∃n,(q1.read t).length=n:=⟨_,rfl⟩;have hl5:=HQ.out.lenR t;rw[hn5]at e5 hl5;have hbv:(c.hr t).getD (.slice none 0 0)=.slice ad5 n5 c5:=e5;have HV:Hid (U.ownsRow w0.heap.size 230 3 (.slice ad5 n5 c5) n5 (flat (q1.read t))):=by show World.ownsRow _ _ _ _ _ _ _;have:=HU.out.rrow dt HT.out.2.2.2;rw[<-HT.out.2.2.1,e5,hn5]at this;exact this
  have hlk0:(Instr.lookup 221 (.map (some c.D)) (.int .i64 t) false).run Tryz.prog U.drew=.ok (.slice ad5 n5 c5) U.drew:=by have:=(zax.drew hm5).look false Tryz.underlying221 (zbs _) hwf;rw[hbv]at this;exact this
  have hlk1:∀ob:Obj,(Instr.lookup 221 (.map (some c.D)) (.int .i64 t) false).run Tryz.prog (U.drew.alloc ob)=.ok (.slice ad5 n5 c5) (U.drew.alloc ob):=fun ob=>by have h2:zax (U.drew.alloc ob) c.D c.hr m5:=hm5.turn (zac.alloc (zac.drew (zac.refl (fun _=>False) U)) ob) fun hf=>hf;have:=h2.look false Tryz.underlying221 (zbs _) hwf;rw[hbv]at this;exact this
  have hlk2:∀ob:Obj,(Instr.lookup 221 (.map (some c.D)) (.int .i64 t) false).run Tryz.prog (U.alloc ob).drew=.ok (.slice ad5 n5 c5) (U.alloc ob).drew:=fun ob=>by have h2:zax (U.alloc ob).drew c.D c.hr m5:=hm5.turn (zac.drew (zac.alloc (zac.refl (fun _=>False) U) ob)) fun hf=>hf;have:=h2.look false Tryz.underlying221 (zbs _) hwf;rw[hbv]at this;exact this
  have HSZ:Hid (w0.heap.size<=U.heap.size):=HU.out.old.size
  have HPT:Hid (∀v2 w2 (ob:Obj),w2.ownsRow w0.heap.size 230 3 v2 (n5+1) (flat (q1.read t)++flat [(t,i,f)])->(U.drew.alloc ob).grownBy w2 (Value.slice ad5 n5 c5).ownBlock->(∀k,v2.ownBlock=some k->(Value.slice ad5 n5 c5).ownBlock=some k\/(U.drew.alloc ob).heap.size<=k) ->
    (w2.cell? ⟨R,4,none⟩=some (.map (some c.D))/\w2.cell? ⟨P,0,none⟩=some (.int .i64 t)/\w2.cell? ⟨Q,0,none⟩=some (.int .i64 t)/\w2.cell? ⟨Q,1,none⟩=some (.int .i64 i)/\w2.cell? ⟨Q,2,none⟩=some (.int .i64 f))/\∃X,(X.cell? ⟨R,4,none⟩=some (.map (some c.D))/\X.cell? ⟨P,0,none⟩=some (.int .i64 t)/\X.cell? ⟨Q,0,none⟩=some (.int .i64 t)/\X.cell? ⟨Q,1,none⟩=some (.int .i64 i)/\X.cell? ⟨Q,2,none⟩=some (.int .i64 f))/\(Instr.mapUpdate 221 (.map (some c.D)) (.int .i64 t) v2).run Tryz.prog w2=.ok () X/\zcZ w0 X R (.func (.func NS) #[] #[]) F (readQ q1 (t,i,f))):=fun v2 w2 ob h1 h2 h3=>by
   have htu:zac (fun k=>(c.rv t).ownBlock=some k) U w2:=by rw[e5];exact zbx h2
   have hd7:=HT.out.2.2.2;have hpw:∀k,(c.rv t).ownBlock=some k->zbF R c (dt+5) k:=fun k hk=>(zcm R c hd7 k).2 (by rw[<-HT.out.2.2.1];exact hk);have hnR:¬(c.rv t).ownBlock=some R:=fun e=>HU.out.apart 0 (dt+5) R (by omega) (by omega) (by omega) rfl (hpw R e);have hnP:¬(c.rv t).ownBlock=some P:=fun e=>HAP.out (dt+5) P (by omega) (hpw P e) rfl;have hnQ:¬(c.rv t).ownBlock=some Q:=fun e=>HAQ.out (dt+5) Q (by omega) (hpw Q e) rfl;have hnW:¬(c.rv t).ownBlock=some c.D:=fun e=>HU.out.apart 3 (dt+5) c.D (by omega) (by omega) (by omega) rfl (hpw c.D e);obtain⟨X,hup,hmX,htX⟩:=(hm5.turn htu hnW).store (v:=v2) Tryz.underlying221 HT.out.1 HT.out.2.1;have f0:=(htu.cell (p:=⟨R,4,none⟩) HU.out.lt hnR).trans HU.out.c4;have f1:=HBU.out.turn htu hnP;have f3:=HQB.out.turn htu hnQ;have hBR:¬R=c.D:=fun e=>HU.out.apart 0 3 R (by omega) (by omega) (by omega) rfl e;have hBP:¬P=c.D:=fun e=>HAP.out 3 c.D (by omega) rfl e.symm;have hBQ:¬Q=c.D:=fun e=>HAQ.out 3 c.D (by omega) rfl e.symm;have f2:=f1.turn htX hBP;have f4:=f3.turn htX hBQ;refine⟨⟨f0,f1.p0,f3.p0,f3.p1,f3.p2⟩,X,⟨(htX.cell (p:=⟨R,4,none⟩) (World.block_lt_of_cell? w2 _ f0) hBR).trans f0,f2.p0,f4.p0,f4.p1,f4.p2⟩,hup,⟨{ c with hr:=setF c.hr (dt:Int) (some v2) },?_⟩⟩;have ht':=HT.out.2.2.1;rw[ht']at htu hmX h1 hn5 e5 ⊢;refine HU.out.pushRead (w2:=w2) (x:=((dt:Int),i,f)) hd7 rfl htu hmX htX (by rw[hn5];exact h1) fun k hk=>?_;rcases apart_later h3 k hk with h4 | h4
   ·exact .inl (by rw[e5];exact h4)
   ·exact .inr h4
  have HK5:Hid (U.drew.cell? ⟨R,4,none⟩=some (.map (some c.D))/\U.drew.cell? ⟨P,0,none⟩=some (.int .i64 t)/\U.drew.cell? ⟨Q,0,none⟩=some (.int .i64 t)/\U.drew.cell? ⟨Q,1,none⟩=some (.int .i64 i)/\U.drew.cell? ⟨Q,2,none⟩=some (.int .i64 f)):=⟨k5,o0,q0,q1c,q2⟩;have HK6:Hid (∀ob:Obj,(U.drew.alloc ob).cell? ⟨R,4,none⟩=some (.map (some c.D))/\(U.drew.alloc ob).cell? ⟨P,0,none⟩=some (.int .i64 t)/\(U.drew.alloc ob).cell? ⟨Q,0,none⟩=some (.int .i64 t)/\(U.drew.alloc ob).cell? ⟨Q,1,none⟩=some (.int .i64 i)/\(U.drew.alloc ob).cell? ⟨Q,2,none⟩=some (.int .i64 f)):=fun ob =>⟨(World.cell?_alloc_lt U.drew ob ⟨R,4,none⟩ hRV).trans k5,(World.cell?_alloc_lt U.drew ob ⟨P,0,none⟩ hPV2).trans o0,(World.cell?_alloc_lt U.drew ob ⟨Q,0,none⟩ hQV2).trans q0,(World.cell?_alloc_lt U.drew ob ⟨Q,1,none⟩ hQV2).trans q1c,(World.cell?_alloc_lt U.drew ob ⟨Q,2,none⟩ hQV2).trans q2⟩;clear hm5 e5 hn5 hbv;go_wp2_with fail
  go_region_held3 (fun w'=>w'.cell? ⟨R,4,none⟩=some (.map (some c.D))/\w'.cell? ⟨P,0,none⟩=some (.int .i64 t)/\w'.cell? ⟨Q,0,none⟩=some (.int .i64 t)/\w'.cell? ⟨Q,1,none⟩=some (.int .i64 i)/\w'.cell? ⟨Q,2,none⟩=some (.int .i64 f)) (first | exact gX | exact g0 | exact HK5.out | exact HK6.out _) (first | (refine zaB rfl (.tmp 33) (.tmp 35) 75 rfl w0.heap.size 230 i0 (.agg #[.int .i64 0,.int .i64 0,.int .i64 0]) 3 24 Tryz.underlying75 HI.out.1 HI.out.2.1 HI.out.2.2.1 HI.out.2.2.2 rfl (by decide) (.slice ad5 n5 c5) n5 (flat (q1.read t)) (by simp[Act.eval]) (HV.out.alloc _) ⟨U.heap.size,0,none⟩ 1 1 (flat [(t,i,f)]) (by simp[Act.eval]) rfl (zlU U (t,i,f) _) (zba _) (by unfold maxLen;omega) (by omega) (by have:=HSZ.out;simp;omega) ?_;intro v2 w2 hown2 hgr2 hap2;obtain⟨g0,X,gX,hup,g2⟩:=HPT.out v2 w2 _ hown2 hgr2 hap2;clear hap2 hgr2;obtain⟨ad6,c6,rfl,-⟩:=zad hown2;have HK2:=zae g2;clear g2 hown2))
  all_goals
   go_wp2_with fail;go_end0;exact⟨rfl,HK2.out⟩
end Go.Proofs.YthlhgiihngcobaaGreatDoor
namespace Go.Proofs.YthlhgiihngcobaaGreatDoor
open Go.RowKit
def zuk(w:World)(x:Value)(m size:Nat)(news:List Value):Prop:=(x=.slice none 0 0/\m=0/\news=[])\/∃ad c,x=.slice (some ad) m c/\news.length=m*size/\∀j u,news[j]? = some u->w.cell? (ad.add j)=some u
theorem zkq{P:Program}{o:Oper}{a:Act}(w:World){K:Act->World->Prop}{Q:Exit->Act->World->Prop}(s x:Operand)(t:TypeId)
  (ho:o.op=.call { callee:=.builtin .append,args:=#[s,x],argTypes:=#[t,t] })
  (base:Nat) (e:TypeId) (i:TypeInfo) (z:Value) (size bytes:Nat) (ht:P.underlying t=some (.slice e)) (hi:P.info? e=some i) (hz:i.zero=some z)
  (hsize:i.size=size) (hby:i.bytes=bytes) (hzs:z.cells.size=size) (hsz:0<size)
  (v:Value) (n:Nat) (xs:List Value) (hs:a.eval s=v) (hown:w.ownsRow base e size v n xs)
  (xv:Value) (m:Nat) (news:List Value) (hx:a.eval x=xv) (hnews:zuk w xv m size news) (h1:∀u∈news,u.oneCell'=true)
  (h63:n+m<=maxLen) (hbytes:(n+m)*bytes<=140737488355328) (hbase:base<=w.heap.size)
  (h:∀v' w',w'.ownsRow base e size v' (n+m) (xs++news)->w.grownBy w' v.ownBlock->(∀g,v'.ownBlock=some g->v.ownBlock=some g\/w.heap.size<=g)->K (a.put o.dst v') w'):o.wp P a w K Q:=by
 rcases hnews with⟨rfl,rfl,rfl⟩ | ⟨ad,c,rfl,hl,hn⟩
 ·have hrun:=run_append_owned_none (P:=P) (w:=w) base t o.type e i size ht hi v n xs hown;unfold Oper.wp;simp only[execOp,ho,resolve,invoke,builtin,Sem.run_bind,Sem.run_pure,Result.andThen_ok,List.map_toArray,List.map_cons,List.map_nil,hs,hx,hrun];refine h v w ?_ ⟨rfl,rfl,rfl,Nat.le_refl _,fun _ _ _=>rfl⟩ fun g hg=>.inl hg;rw[Nat.add_zero,List.append_nil];exact hown
 ·exact zcB w s x t ho base e i z size bytes ht hi hz hsize hby hzs hsz v n xs hs hown ad m c news hx hl hn h1 h63 hbytes hbase h
theorem zhz{P:Program}{ops:Array Oper}{o:Oper}{a:Act}{w:World}{K:Act->World->Prop}{Q:Exit->Act->World->Prop}{E:Prop}
  (hgd:o.guard=none) (s x:Operand) (t:TypeId) (ho:o.op=.call { callee:=.builtin .append,args:=#[s,x],argTypes:=#[t,t] })
  (base:Nat) (e:TypeId) (i:TypeInfo) (z:Value) (size bytes:Nat) (ht:P.underlying t=some (.slice e)) (hi:P.info? e=some i) (hz:i.zero=some z)
  (hsize:i.size=size) (hby:i.bytes=bytes) (hzs:z.cells.size=size) (hsz:0<size)
  (v:Value) (n:Nat) (xs:List Value) (hs:a.eval s=v) (hown:w.ownsRow base e size v n xs)
  (xv:Value) (m:Nat) (news:List Value) (hx:a.eval x=xv) (hnews:zuk w xv m size news) (h1:∀u∈news,u.oneCell'=true)
  (h63:n+m<=maxLen) (hbytes:(n+m)*bytes<=140737488355328) (hbase:base<=w.heap.size)
  (h:∀v' w',w'.ownsRow base e size v' (n+m) (xs++news)->w.grownBy w' v.ownBlock->(∀g,v'.ownBlock=some g->v.ownBlock=some g\/w.heap.size<=g)->K (a.put o.dst v') w') :
  if Region.wanted o (yielded ops a.tmps)=true then Oper.wp P o a w K Q else E:=by
 have hw:Region.wanted o (yielded ops a.tmps)=true:=by simp[Region.wanted,hgd]
 rw[if_pos hw];exact zkq w s x t ho base e i z size bytes ht hi hz hsize hby hzs hsz v n xs hs hown xv m news hx hnews h1 h63 hbytes hbase h
theorem zul{w:World}{v:Value}{l:List Op3}(h:zai w v l):zuk w v l.length 3 (flat l):=by
 obtain⟨ad,b,off,cap,rfl,ha,hn,hbB,hops⟩:=h;cases ad with
 | none =>obtain⟨h1,rfl⟩:=hn rfl;have h2:l=[]:=List.length_eq_zero_iff.1 h1;subst h2;exact .inl ⟨rfl,rfl,rfl⟩
 | some a =>refine .inr ⟨a,cap,rfl,zbr l,fun j u hj=>?_⟩;have hlt:j<(flat l).length:=(List.getElem?_eq_some_iff.1 hj).1;rw[zbr]at hlt;have:=ha (by omega);obtain rfl:=Option.some.inj this;rw[Addr.add_lit];exact hops.flat j u hj
end Go.Proofs.YthlhgiihngcobaaGreatDoor
namespace Go.Proofs.YthlhgiihngcobaaGreatDoor
open Go.RowKit
theorem zq7{P:Program}{ops:Array Oper}{o:Oper}{a:Act}{w:World}{K:Act->World->Prop}{Q:Exit->Act->World->Prop}{E:Prop}
  (hgd:o.guard=none) (N:FuncId) (A:Array Operand) (T:Array TypeId) (ho:o.op=.call { callee:=.value (.func N),args:=A,argTypes:=T })
  (vals:Array Value) (hv:A.map a.eval=vals) (hent:∀args W,(callFunc N args).run P W=.ok (.enter N args) W) (v:Value) (R:World->Prop)
  (hc:Calls P N vals w fun e w'=>e=.returned v/\R w') (h:∀w',R w'->K (a.put o.dst v) w') :
  if Region.wanted o (yielded ops a.tmps)=true then Oper.wp P o a w K Q else E:=by
 have hw:Region.wanted o (yielded ops a.tmps)=true:=by simp[Region.wanted,hgd]
 rw[if_pos hw];have hrun:(execOp a.eval o).run P w=.ok (.enter N vals) w:=by have h1:a.eval (.func N)=.func (.func N) #[] #[]:=rfl;simp[execOp,ho,resolve,h1,hv,Deferred.ofValue,invoke,hent]
 unfold Oper.wp;rw[hrun];show Calls P N vals w _;refine hc.mono ?_;rintro e w' ⟨rfl,hR⟩;exact h w' hR
theorem zaL:(Tryz.prog.info? 77).map (fun i=>i.size)=some 3:=by kernel_rfl
structure ziK(w wr:World)(Z U:Nat)(dv sv lv:Value)(se:List Op3)(la:List Int):Prop where
 res:wr.heap[Z]? = some (.cells #[.slice none 0 0,.slice none 0 0,.slice none 0 0] 77 (0,0))
 blk:wr.heap[U]? = some (.cells #[dv,sv,lv] 77 (0,0))
 seen:wr.ownsRow w.heap.size 230 3 sv se.length (flat se)
 last:wr.ownsRow w.heap.size 3 1 lv la.length (la.map (Value.int .i64))
 old:Below w.heap.size w wr
 newU:w.heap.size<=U
 zu:Z≠U
 sz:∀k,sv.ownBlock=some k->k≠Z/\k≠U
 lz:∀k,lv.ownBlock=some k->k≠Z/\k≠U
 sl:∀k,sv.ownBlock=some k->¬lv.ownBlock=some k
section
variable {w wr w1:World} {Z U:Nat} {dv sv lv v2:Value} {se:List Op3} {la:List Int}
theorem ziK.ltU(h:ziK w wr Z U dv sv lv se la):U<wr.heap.size:=(Array.getElem?_eq_some_iff.1 h.blk).1
theorem ziK.ltZ(h:ziK w wr Z U dv sv lv se la):Z<wr.heap.size:=(Array.getElem?_eq_some_iff.1 h.res).1
theorem ziK.later(h:ziK w wr Z U dv sv lv se la)(hb:Below wr.heap.size wr w1):ziK w w1 Z U dv sv lv se la :=
 have ht:zac (fun _=>False) wr w1:=zac.of_below hb
 ⟨(hb.block Z h.ltZ).trans h.res,(hb.block U h.ltU).trans h.blk,ht.own h.seen (fun _ _ hf=>hf),ht.own h.last (fun _ _ hf=>hf),h.old.trans (hb.mono h.old.size),h.newU,h.zu,h.sz,h.lz,h.sl⟩
theorem ziK.cells(h:ziK w wr Z U dv sv lv se la):wr.cell? ⟨U,0,none⟩=some dv/\wr.cell? ⟨U,1,none⟩=some sv/\wr.cell? ⟨U,2,none⟩=some lv:=by refine⟨?_,?_,?_⟩ <;> rw[cell_of_row wr U _ _ _ _ h.blk] <;> rfl
theorem ziK.resCells(h:ziK w wr Z U dv sv lv se la):(wr.cell? ⟨Z,0,none⟩=some (.slice none 0 0)/\wr.cell? ⟨Z,1,none⟩=some (.slice none 0 0)/\wr.cell? ⟨Z,2,none⟩=some (.slice none 0 0))/\∀k,wr.frozen? ⟨Z,k,none⟩=false:=by refine⟨⟨?_,?_,?_⟩,fun k=>by simp[World.frozen?,h.res]⟩ <;> rw[cell_of_row wr Z _ _ _ _ h.res] <;> rfl
theorem ziK.pushS{x:List Op3}(h:ziK w wr Z U dv sv lv se la)(ht:zac (fun k=>sv.ownBlock=some k) wr w1)(hv:w1.ownsRow w.heap.size 230 3 v2 (se.length+x.length) (flat se++flat x))(hap:∀q,v2.ownBlock=some q->sv.ownBlock=some q\/wr.heap.size<=q):w1.cell? ⟨U,1,none⟩=some sv/\w1.frozen? ⟨U,1,none⟩=false/\ziK w (w1.setCell ⟨U,1,none⟩ v2) Z U dv v2 lv (se++x) la:=by
 have hZ:=h.ltZ;have hU:=h.ltU;have hb1:w1.heap[U]? = some (.cells #[dv,sv,lv] 77 (0,0)):=(ht.block U hU (fun e=>(h.sz _ e).2 rfl)).trans h.blk;have hr1:w1.heap[Z]? = _:=(ht.block Z hZ (fun e=>(h.sz _ e).1 rfl)).trans h.res
 have hv2:∀k,v2.ownBlock=some k->(k≠Z/\k≠U)/\¬lv.ownBlock=some k:=fun k hk=>by
  rcases hap k hk with e | e
  ·exact⟨h.sz k e,h.sl k e⟩
  ·exact⟨⟨by omega,by omega⟩,fun e2=>by have:=(h.last.lt k e2).2;omega⟩
 have hset:zac (fun k=>k=U) w1 (w1.setCell ⟨U,1,none⟩ v2):=by refine zac.setCell (zac.refl _ w1) ?_ _;exact .inl rfl
 refine⟨by rw[cell_of_row w1 U _ _ _ _ hb1];rfl,by simp[World.frozen?,hb1],⟨?_,?_,?_,?_,?_,h.newU,h.zu,fun k hk=>(hv2 k hk).1,h.lz,fun k hk=>(hv2 k hk).2⟩⟩
 ·rw[Below.heap_setCell _ _ _ _ h.zu];exact hr1
 ·rw[za9 hb1];rfl
 ·rw[List.length_append,zaP];exact hset.own hv fun k hk e=>(hv2 k hk).1.2 e
 ·exact hset.own (ht.own h.last fun k hk e=>h.sl k e hk) fun k hk e=>(h.lz k hk).2 e
 ·exact(h.old.trans (ht.below h.old.size fun k hk e=>by have:=(h.seen.lt k e).1;omega)).setCell h.newU _
theorem ziK.pushL{x:Int}(h:ziK w wr Z U dv sv lv se la)(ht:zac (fun k=>lv.ownBlock=some k) wr w1)(hv:w1.ownsRow w.heap.size 3 1 v2 (la.length+1) (la.map (Value.int .i64)++[.int .i64 x]))(hap:∀q,v2.ownBlock=some q->lv.ownBlock=some q\/wr.heap.size<=q):w1.cell? ⟨U,2,none⟩=some lv/\w1.frozen? ⟨U,2,none⟩=false/\ziK w (w1.setCell ⟨U,2,none⟩ v2) Z U dv sv v2 se (la++[x]):=by
 have hZ:=h.ltZ;have hU:=h.ltU;have hb1:w1.heap[U]? = some (.cells #[dv,sv,lv] 77 (0,0)):=(ht.block U hU (fun e=>(h.lz _ e).2 rfl)).trans h.blk;have hr1:w1.heap[Z]? = _:=(ht.block Z hZ (fun e=>(h.lz _ e).1 rfl)).trans h.res
 have hv2:∀k,v2.ownBlock=some k->(k≠Z/\k≠U)/\¬sv.ownBlock=some k:=fun k hk=>by
  rcases hap k hk with e | e
  ·exact⟨h.lz k e,fun e2=>h.sl k e2 e⟩
  ·exact⟨⟨by omega,by omega⟩,fun e2=>by have:=(h.seen.lt k e2).2;omega⟩
 have hset:zac (fun k=>k=U) w1 (w1.setCell ⟨U,2,none⟩ v2):=by refine zac.setCell (zac.refl _ w1) ?_ _;exact .inl rfl
 refine⟨by rw[cell_of_row w1 U _ _ _ _ hb1];rfl,by simp[World.frozen?,hb1],⟨?_,?_,?_,?_,?_,h.newU,h.zu,h.sz,fun k hk=>(hv2 k hk).1,fun k hk e=>(hv2 k e).2 hk⟩⟩
 ·rw[Below.heap_setCell _ _ _ _ h.zu];exact hr1
 ·rw[za9 hb1];rfl
 ·exact hset.own (ht.own h.seen fun k hk e=>h.sl k hk e) fun k hk e=>(h.sz k hk).2 e
 ·rw[List.length_append,List.map_append];exact hset.own hv fun k hk e=>(hv2 k hk).1.2 e
 ·exact(h.old.trans (ht.below h.old.size fun k hk e=>by have:=(h.last.lt k e).1;omega)).setCell h.newU _
end
theorem zsG(w w1:World)(hb:Below (w.alloc (.cells #[.slice none 0 0,.slice none 0 0,.slice none 0 0] 77)).heap.size (w.alloc (.cells #[.slice none 0 0,.slice none 0 0,.slice none 0 0] 77)) w1)(dv:Value):ziK w1 (w1.alloc (.cells #[dv,.slice none 0 0,.slice none 0 0] 77)) w.heap.size w1.heap.size dv (.slice none 0 0) (.slice none 0 0) [] []:=by have hs:=hb.size;rw[World.size_alloc]at hs;refine⟨?_,World.alloc_heap_new w1 _,World.ownsRow_nil _ _ _ _,World.ownsRow_nil _ _ _ _,(Below.refl _ w1).alloc (Nat.le_refl _) _,Nat.le_refl _,by omega,fun k hk=>by simp[Value.ownBlock]at hk,fun k hk=>by simp[Value.ownBlock]at hk,fun k hk=>by simp[Value.ownBlock]at hk⟩;exact((Below.heap_alloc _ _ _ (by omega)).trans (hb.block w.heap.size (by simp))).trans (World.alloc_heap_new w _)
theorem zB6{ds:List Int}{k:Nat}(h:k<ds.length):ds.take (k+1)=ds.take k++[ds.getD k 0]:=by rw[List.take_succ_eq_append_getElem h];simp[List.getD,List.getElem?_eq_getElem h]
theorem zuW{q:Crs}{m:Nat}(h:∀t,(q.read t).length<=m):∀ds:List Int,(ds.flatMap q.read).length<=ds.length*m:=by
 intro ds
 induction ds with
 | nil=>simp
 | cons t r ih =>rw[List.flatMap_cons,List.length_append,List.length_cons,Nat.succ_mul];have:=h t;omega
theorem zzK{w5:World}{Z off:Nat}{n:Int}(hz:w5.heap[Z]? = some (.cells #[.slice none 0 0,.slice none 0 0,.slice none 0 0] 77 (0,0))):¬w5.cell? ⟨Z,off,none⟩=some (.int .i64 n):=fun h=>by
 rw[cell_of_row w5 Z _ _ _ _ hz]at h;rcases off with _ | _ | _ | off
 ·simp at h
 ·simp at h
 ·simp at h
 ·simp at h
theorem zyU{w w5:World}{Z:Nat}{u1 u2 u3:Value}{ds la:List Int}{se:List Op3}(hz:w5.heap[Z]? = some (.cells #[.slice none 0 0,.slice none 0 0,.slice none 0 0] 77 (0,0)))(hZ:w.heap.size<=Z)(hb:Below w.heap.size w w5)(h1:zaf w5 u1 ds)(h2:zai w5 u2 se)(h3:zaf w5 u3 la):(((w5.setCell ⟨Z,0,none⟩ u1).setCell ⟨Z,1,none⟩ u2).setCell ⟨Z,2,none⟩ u3).heap[Z]? = some (.cells #[u1,u2,u3] 77 (0,0))/\zaf (((w5.setCell ⟨Z,0,none⟩ u1).setCell ⟨Z,1,none⟩ u2).setCell ⟨Z,2,none⟩ u3) u1 ds/\zai (((w5.setCell ⟨Z,0,none⟩ u1).setCell ⟨Z,1,none⟩ u2).setCell ⟨Z,2,none⟩ u3) u2 se/\zaf (((w5.setCell ⟨Z,0,none⟩ u1).setCell ⟨Z,1,none⟩ u2).setCell ⟨Z,2,none⟩ u3) u3 la/\Below w.heap.size w (((w5.setCell ⟨Z,0,none⟩ u1).setCell ⟨Z,1,none⟩ u2).setCell ⟨Z,2,none⟩ u3):=by
 have ht:zac (fun j=>j=Z) w5 (((w5.setCell ⟨Z,0,none⟩ u1).setCell ⟨Z,1,none⟩ u2).setCell ⟨Z,2,none⟩ u3):=by refine zac.setCell (zac.setCell (zac.setCell (zac.refl _ w5) ?_ _) ?_ _) ?_ _ <;> exact .inl rfl
 have hbl:(((w5.setCell ⟨Z,0,none⟩ u1).setCell ⟨Z,1,none⟩ u2).setCell ⟨Z,2,none⟩ u3).heap[Z]? = some (.cells #[u1,u2,u3] 77 (0,0)):=by rw[za9 (za9 (za9 hz))];rfl
 obtain⟨X,hX⟩:∃X,X=((w5.setCell ⟨Z,0,none⟩ u1).setCell ⟨Z,1,none⟩ u2).setCell ⟨Z,2,none⟩ u3:=⟨_,rfl⟩;rw[<-hX]at ht hbl ⊢;clear hX
 have key:∀b off (n:Int),w5.cell? ⟨b,off,none⟩=some (.int .i64 n)->X.cell? ⟨b,off,none⟩=some (.int .i64 n):=fun b off n hc=>by
  have hne:b≠Z:=fun e=>by subst e;exact zzK hz hc
  exact(ht.cell (p:=⟨b,off,none⟩) (World.block_lt_of_cell? w5 _ hc) hne).trans hc
 have ints:∀ {u:Value} {l:List Int},zaf w5 u l->zaf X u l:=fun h=>by
  obtain⟨ad,b,off,cap,hv,ha,hn,hbB,hc⟩:=h;refine⟨ad,b,off,cap,hv,ha,hn,?_,fun i hi=>key _ _ _ (hc i hi)⟩;rcases hbB with h | h
  ·exact .inl (Nat.lt_of_lt_of_le h ht.size)
  ·exact .inr h
 have ops:zai X u2 se:=by
  obtain⟨ad,b,off,cap,hv,ha,hn,hbB,hc⟩:=h2;refine⟨ad,b,off,cap,hv,ha,hn,?_,fun i hi=>?_⟩
  ·rcases hbB with h | h
   ·exact .inl (Nat.lt_of_lt_of_le h ht.size)
   ·exact .inr h
  ·obtain⟨g1,g2,g3⟩:=hc i hi;exact⟨key _ _ _ g1,key _ _ _ g2,key _ _ _ g3⟩
 exact⟨hbl,ints h1,ops,ints h3,hb.trans (ht.below hb.size fun j hj e=>by omega)⟩
def zdK(q:Crs)(ds:List Int)(n:Nat):List Int:=(List.range n).map fun i:Nat=>lastQ q.wrote ds ((i:Int)+1)
theorem znS(q:Crs)(ds:List Int)(n:Nat):zdK q ds (n+1)=zdK q ds n++[lastQ q.wrote ds ((n:Int)+1)]:=by unfold zdK;rw[List.range_succ,List.map_append];rfl
theorem zeE(q:Crs)(ds:List Int)(n:Nat):(zdK q ds n).length=n:=by simp[zdK]
def zit(q:Crs)(n:Nat):List Int:=zdK q q.done n
theorem znZ:zbB 163:=fun _ _=>by kernel_rfl
theorem zh1{w0 w:World}{R:Nat}{S F:Value}{q:Crs}{c:zbZ}(h:zaq w0 w R S F q c)(hq:zaR 100 q)(ds:List Int)(v:Value)(hI:zaf w v ds)(h16:∀t∈ds,1<=t/\t<=6)(hl:ds.length<=100):Calls Tryz.prog 96 #[.pointer (some ⟨R,0,none⟩),v] w fun e w'=>∃a1 a2 a3,e=.returned (.agg #[a1,a2,a3])/\zaf w' a1 ds/\zai w' a2 (ds.flatMap q.read)/\zaf w' a3 (zdK q ds 6)/\zBO a1/\Below w.heap.size w w':=by
 have HL:=zae h;have HQ:=zae hq;have hqm:zaR 1000 q:=⟨by have:=hq.lenD;omega,fun t=>by have:=hq.lenR t;omega,fun t=>by have:=hq.lenW t;omega,hq.six,hq.cnt,hq.begs⟩;have HQM:=zae hqm;have HSIX:=zae h16;have HIV:=zae hI;obtain⟨ad0,c0,e0⟩:∃ad c,v=.slice ad ds.length c:=by obtain⟨ad,_,_,c,e,_⟩:=hI;exact⟨ad,c,e⟩
 rw[e0]at hI HIV ⊢;have hRW:=h.lt;have HDN:Hid (∀W,Below w.heap.size w W->Calls Tryz.prog 79 #[.slice ad0 ds.length c0] W fun e w'=>∃v',e=.returned v'/\w'.ownsRow W.heap.size 3 1 v' ds.length (ds.map (Value.int .i64))/\Below W.heap.size W w'):=fun W hW=>clone_ints ds _ W (hI.below hW (Nat.le_refl _)) (by omega);obtain⟨N,hN⟩:∃N,ds.length=N:=⟨_,rfl⟩;have HN:=zae hN;rw[hN]at hI HIV HDN ⊢
 have HC:Hid (∀W,Below w.heap.size w W->∀k,k<N->∃b off,ad0=some ⟨b,off,none⟩/\b<W.heap.size/\W.cell? ⟨b,off+k,none⟩=some (.int .i64 (ds.getD k 0))):=fun W hW k hk=>by
  obtain⟨ad,b,off,cap,e1,ha,-,hbB,hc⟩:=hI;injection e1 with e1 e2 e3
  have hb:b<w.heap.size:=by
   rcases hbB with h | h
   ·exact h
   ·have:ds.length=0:=by rw[h];rfl
    omega
  exact⟨b,off,by rw[e1];exact ha (by omega),Nat.lt_of_lt_of_le hb hW.size,(hW.cell (p:=⟨b,off+k,none⟩) hb).trans (hc k (by omega))⟩
 obtain⟨i0,hi,hz0,hs0,hy0⟩:=info_parts zhK;have HI:Hid (Tryz.prog.info? 230=some i0/\i0.zero=some (.agg #[.int .i64 0,.int .i64 0,.int .i64 0])/\i0.size=3/\i0.bytes=24):=⟨hi,hz0,hs0,hy0⟩;obtain⟨j0,hj,hjz0,hjs0,hjy0⟩:=info_parts zbK;have HJ:Hid (Tryz.prog.info? 3=some j0/\j0.zero=some (.int .i64 0)/\j0.size=1/\j0.bytes=8):=⟨hj,hjz0,hjs0,hjy0⟩;have hN100:N<=100:=by omega
 clear h hq hqm e0 hI hi hz0 hs0 hy0 hj hjz0 hjs0 hjy0 h16 hl hN;go_enter Tryz.func96,Tryz.ntmps96;go_wp2_with fail;obtain⟨WZ,hWZ⟩:∃W,W=w.alloc (.cells #[.slice none 0 0,.slice none 0 0,.slice none 0 0] 77):=⟨_,rfl⟩;rw[<-hWZ];have hbZ:Below w.heap.size w WZ:=by rw[hWZ];exact(Below.refl _ w).alloc (Nat.le_refl _) _
 refine(HDN.out WZ hbZ).mono ?_;rintro e w1 ⟨v1,rfl,ho1,hb1⟩;obtain⟨ad1,c1,rfl,-⟩:=zad ho1;have HII:=zae (zap ho1 HN.out)
 have hroom:zBO (.slice ad1 N c1):=by
  obtain⟨_,⟨hv,_⟩ | ⟨g,cap,cur,hv,_,_,hn,_⟩⟩:=ho1
  ·exact⟨none,0,0,hv,Nat.le_refl _⟩
  ·exact⟨_,_,_,hv,hn⟩
 have HRM:=zae hroom;have HB1:Hid (Below w.heap.size w w1):=hbZ.trans (hb1.mono hbZ.size);have hbm:=hb1;rw[hWZ]at hbm;have HM:=zae (zsG w w1 hbm (.slice ad1 N c1));clear ho1 hroom hb1 hbm hWZ hbZ;obtain⟨Z,hZ⟩:∃Z,Z=w.heap.size:=⟨_,rfl⟩;rw[<-hZ]at HM ⊢;have HZ:Hid (w.heap.size<=Z):=by show w.heap.size<=Z;omega
 clear hZ
 go_upto_region 2 with(fail)
 obtain⟨W0,hW0⟩:∃W,W=w1.alloc (.cells #[.slice ad1 N c1,.slice none 0 0,.slice none 0 0] 77):=⟨_,rfl⟩;rw[<-hW0]at HM ⊢;obtain⟨U,hU⟩:∃U,U=w1.heap.size:=⟨_,rfl⟩;rw[<-hU]at HM ⊢;clear hW0 hU;go_wp2_with fail
 go_loopw [14] (fun v14 wr=>∃(k:Nat) (sv:Value),k<=N/\v14=.int .i64 k/\ziK w1 wr Z U (.slice ad1 N c1) sv (.slice none 0 0) ((ds.take k).flatMap q.read) []) (fun v14 _=>N-(intOf v14).toNat)
 case atStart=>exact⟨0,_,Nat.zero_le _,rfl,by rw[List.take_zero];exact HM.out⟩
 case round =>
  obtain⟨k,sv,hk,rfl,hou⟩:=hrel;have HOU:=zae hou;have HOW:Hid (Below w.heap.size w wr):=HB1.out.trans (hou.old.mono HB1.out.size);clear hou HM;by_cases hlt:k<N
  ·have hlt':(k:Int)<(N:Int):=by omega
   obtain⟨b,off,rfl,hbw,hcb⟩:=HC.out wr HOW.out k hlt;obtain⟨t,ht⟩:∃t,ds.getD k 0=t:=⟨_,rfl⟩;rw[ht]at hcb;have hmem:t∈ds:=by rw[<-ht];have:=HN.out;simp[List.getD,List.getElem?_eq_getElem (show k<ds.length by omega)]
   have h6:=HSIX.out t hmem;have HNX:Hid ((ds.take (k+1)).flatMap q.read=(ds.take k).flatMap q.read++q.read t):=by show _=_;rw[zB6 (by have:=HN.out;omega),ht,List.flatMap_append];simp
   have hw:=HL.out.below HOW.out;obtain⟨m,hm⟩:=hw.rd;obtain⟨ads,cps,hrv,hrops⟩:=hw.reads h6.1 h6.2;have k4:=hw.c4;have hRr:=hw.lt;obtain⟨nt,hnt⟩:∃n,(q.read t).length=n:=⟨_,rfl⟩;have hnt100:nt<=100:=by rw[<-hnt];exact HQ.out.lenR t
   have hbv:(c.hr t).getD (.slice none 0 0)=.slice ads (q.read t).length cps:=hrv;rw[hnt]at hbv hrops;have hlk0:(Instr.lookup 221 (.map (some c.D)) (.int .i64 t) false).run Tryz.prog wr.drew=.ok (.slice ads nt cps) wr.drew:=by have:=(zax.drew hm).look false Tryz.underlying221 (zbs _) (zaX h6.1 h6.2);rw[hbv]at this;exact this
   have HSR:Hid (zuk wr (.slice ads nt cps) nt 3 (flat (q.read t))):=by show zuk _ _ _ _ _;rw[<-hnt]at hrops ⊢;exact zul hrops
   obtain⟨adS,cS,eS,-⟩:=zad HOU.out.seen;obtain⟨ns,hns⟩:∃n,((ds.take k).flatMap q.read).length=n:=⟨_,rfl⟩
   have hns1:ns<=10000:=by
    rw[<-hns];have h1:=zuW HQ.out.lenR (ds.take k);have h2:(ds.take k).length<=100:=by rw[List.length_take];omega
    have h3:(ds.take k).length*100<=100*100:=Nat.mul_le_mul_right _ h2;omega
   rw[hns]at eS;subst eS;obtain⟨u0,u1,u2⟩:=HOU.out.cells;have hUw:=HOU.out.ltU;have HV:Hid (wr.ownsRow w1.heap.size 230 3 (.slice adS ns cS) ns (flat ((ds.take k).flatMap q.read))):=by show World.ownsRow _ _ _ _ _ _ _;have:=HOU.out.seen;rw[hns]at this;exact this
   have HSZ1:Hid (w1.heap.size<=wr.heap.size):=HOU.out.old.size;have HPT:Hid (∀v2 w2,w2.ownsRow w1.heap.size 230 3 v2 (ns+nt) (flat ((ds.take k).flatMap q.read)++flat (q.read t))->wr.drew.grownBy w2 (Value.slice adS ns cS).ownBlock->(∀g,v2.ownBlock=some g->(Value.slice adS ns cS).ownBlock=some g\/wr.drew.heap.size<=g)->w2.cell? ⟨U,1,none⟩=some (.slice adS ns cS)/\w2.frozen? ⟨U,1,none⟩=false/\ziK w1 (w2.setCell ⟨U,1,none⟩ v2) Z U (.slice ad1 N c1) v2 (.slice none 0 0) ((ds.take (k+1)).flatMap q.read) []):=fun v2 w2 g1 g2 g3=>by rw[HNX.out];exact HOU.out.pushS ((zac.refl _ wr).drew.grown g2 fun j hj=>.inl hj) (by rw[hns,hnt];exact g1) g3
   clear hw hm hrv hrops hbv hnt hns ht hmem u0 u2;go_wp2_with fail
   go_region_law (refine zhz rfl (.tmp 19) (.tmp 25) 75 rfl w1.heap.size 230 i0 (.agg #[.int .i64 0,.int .i64 0,.int .i64 0]) 3 24 Tryz.underlying75 HI.out.1 HI.out.2.1 HI.out.2.2.1 HI.out.2.2.2 rfl (by decide) (.slice adS ns cS) ns (flat ((ds.take k).flatMap q.read)) (by simp[Act.eval]) HV.out (.slice ads nt cps) nt (flat (q.read t)) (by simp[Act.eval]) HSR.out (zba _) (by unfold maxLen;omega) (by omega) (by have:=HSZ1.out;simp;omega) ?_;intro v2 w2 hown2 hgr2 hap2;obtain⟨g0,g1,g2⟩:=HPT.out v2 w2 hown2 hgr2 hap2;clear hap2 hgr2;obtain⟨ad7,c7,rfl,-⟩:=zad hown2;have HK3:=zae g2;clear g2 hown2)
   all_goals
    go_wp2_with fail;go_roundw
    case rel=>exact⟨k+1,_,by omega,by go_num,HK3.out⟩
    case measure=>simp[intOf];omega
  ·have hlt':¬(k:Int)<(N:Int):=by omega
   obtain rfl:N=k:=by omega
   have hse:(ds.take N).flatMap q.read=ds.flatMap q.read:=by rw[List.take_of_length_le (by have:=HN.out;omega)]
   rw[hse]at HOU;clear hse hk hlt hlt';obtain⟨WA,hWA⟩:∃W:World,W=wr:=⟨_,rfl⟩;subst hWA;go_wp2_with fail
   go_loopw [8] (fun v8 wr=>∃(k:Nat) (lv:Value),k<=6/\v8=.int .i64 ((k:Int)+1)/\ziK w1 wr Z U (.slice ad1 N c1) sv lv (ds.flatMap q.read) (zdK q ds k)) (fun v8 _=>7-(intOf v8).toNat)
   case atStart=>exact⟨0,_,Nat.zero_le _,rfl,HOU.out⟩
   case round =>
    obtain⟨k,lv,hk,rfl,hou⟩:=hrel;have HOV:=zae hou;have HOW2:Hid (Below w.heap.size w wr):=HB1.out.trans (hou.old.mono HB1.out.size);clear hou HOU;obtain⟨adS,cS,eS,-⟩:=zad HOV.out.seen;obtain⟨ns,hns⟩:∃n,(ds.flatMap q.read).length=n:=⟨_,rfl⟩;rw[hns]at eS;subst eS;have HNS:=zae hns;clear hns;by_cases hlt:k<6
    ·have hk7:(k:Int)+1<=6:=by omega
     have HNX:=zae (znS q ds k);obtain⟨y,hy⟩:∃y,lastQ q.wrote ds ((k:Int)+1)=y:=⟨_,rfl⟩;have HLS:Hid (∀W,Below wr.heap.size wr W->Calls Tryz.prog 163 #[.pointer (some ⟨R,0,none⟩),.slice ad0 N c0,.int .i64 ((k:Int)+1)] W fun e w'=>e=.returned (.int .i64 y)/\Below wr.heap.size wr w'):=fun W hW=>by have hw:=(HL.out.below HOW2.out).below hW;have:=zeA hw HQM.out ds (.slice ad0 N c0) ((HIV.out.below HOW2.out (Nat.le_refl _)).below hW (Nat.le_refl _)) HSIX.out (by have:=HN.out;omega) ((k:Int)+1);rw[hy]at this;exact this.mono fun e w' ⟨h2,h3⟩=>⟨h2,hW.trans (h3.mono hW.size)⟩
     rw[hy]at HNX;obtain⟨adL,cL,eL,-⟩:=zad HOV.out.last;rw[zeE]at eL;subst eL;have HV:Hid (∀W,Below wr.heap.size wr W->W.ownsRow w1.heap.size 3 1 (.slice adL k cL) k ((zdK q ds k).map (Value.int .i64))):=fun W hW=>by have:=(HOV.out.later hW).last;rw[zeE]at this;exact this
     have HSZ1:Hid (∀W,Below wr.heap.size wr W->w1.heap.size<=W.heap.size):=fun W hW=>Nat.le_trans HOV.out.old.size hW.size;obtain⟨u0,u1,u2⟩:=HOV.out.cells;have HU2:Hid (∀W,Below wr.heap.size wr W->W.cell? ⟨U,2,none⟩=some (.slice adL k cL)):=fun W hW=>(HOV.out.later hW).cells.2.2;have hUw:=HOV.out.ltU
     have HPT:Hid (∀W,Below wr.heap.size wr W->∀v2 w2 (ob:Obj),w2.ownsRow w1.heap.size 3 1 v2 (k+1) ((zdK q ds k).map (Value.int .i64)++[.int .i64 y])->(W.alloc ob).grownBy w2 (Value.slice adL k cL).ownBlock->(∀g,v2.ownBlock=some g->(Value.slice adL k cL).ownBlock=some g\/(W.alloc ob).heap.size<=g)->w2.cell? ⟨U,2,none⟩=some (.slice adL k cL)/\w2.frozen? ⟨U,2,none⟩=false/\ziK w1 (w2.setCell ⟨U,2,none⟩ v2) Z U (.slice ad1 N c1) (.slice adS ns cS) v2 (ds.flatMap q.read) (zdK q ds (k+1))):=fun W hW v2 w2 ob g1 g2 g3=>by
      rw[HNX.out]
      exact(HOV.out.later hW).pushL (((zac.refl _ W).alloc ob).grown g2 fun j hj=>.inl hj) (by rw[zeE];exact g1) fun g hg=>by
       rcases g3 g hg with h4 | h4
       ·exact .inl h4
       ·exact .inr (by simp at h4;omega)
     have HENT:=zae znZ;clear hy u0 u1;go_wp2_with fail
     go_region_law (first | (refine zq7 rfl 163 _ _ rfl #[.pointer (some ⟨R,0,none⟩),.slice ad0 N c0,.int .i64 ((k:Int)+1)] (by simp[Act.eval,Act.put]) HENT.out (.int .i64 y) (fun w'=>Below wr.heap.size wr w') (HLS.out wr.drew (Below.refl _ wr).drew) ?_;intro W1 hW1;have v2c:=HU2.out W1 hW1;have v2d:∀ob:Obj,(W1.alloc ob).cell? ⟨U,2,none⟩=some (.slice adL k cL):=fun ob=>HU2.out (W1.alloc ob) (hW1.alloc hW1.size ob)) | (refine zaB rfl (.tmp 34) (.tmp 39) 24 rfl w1.heap.size 3 j0 (.int .i64 0) 1 8 Tryz.underlying24 HJ.out.1 HJ.out.2.1 HJ.out.2.2.1 HJ.out.2.2.2 rfl (by decide) (.slice adL k cL) k ((zdK q ds k).map (Value.int .i64)) (by simp[Act.eval]) ((HV.out W1 hW1).alloc _) ⟨W1.heap.size,0,none⟩ 1 1 [.int .i64 y] (by simp[Act.eval]) rfl (zjS W1 y _) (zka y) (by unfold maxLen;omega) (by omega) (by have:=HSZ1.out W1 hW1;simp;omega) ?_;intro v2 w2 hown2 hgr2 hap2;obtain⟨g0,g1,g2⟩:=HPT.out W1 hW1 v2 w2 _ hown2 hgr2 hap2;clear hap2 hgr2;obtain⟨ad7,c7,rfl,-⟩:=zad hown2;have HK3:=zae g2;clear g2 hown2))
     all_goals
      go_wp2_with fail;go_roundw
      case rel=>exact⟨k+1,_,by omega,by go_num,HK3.out⟩
      case measure=>simp[intOf];omega
    ·obtain rfl:k=6:=by omega
     obtain⟨u0,u1,u2⟩:=HOV.out.cells;obtain⟨⟨z0,z1,z2⟩,y⟩:=HOV.out.resCells;obtain⟨adL,cL,eL,-⟩:=zad HOV.out.last;rw[zeE]at eL;subst eL;have y0:=y 0;have y1:=y 1;have y2:=y 2;obtain⟨HRE0,HFI0⟩:=zyU HOV.out.res HZ.out HOW2.out (HII.out.below HOV.out.old (Nat.le_refl _)) (zbH HOV.out.seen rfl) (zap HOV.out.last rfl);have HRE:=zae HRE0;have HFI:=zae HFI0;clear HRE0 HFI0 y hk hlt;go_wp2_with fail;refine bodyPost_ret (v:=.agg #[.slice ad1 N c1,.slice adS ns cS,.slice adL 6 cL]) (results_cell_row Tryz.results96 _ _ Z 77 #[.slice ad1 N c1,.slice adS ns cS,.slice adL 6 cL] (0,0) _ rfl HRE.out Tryz.underlying77 rfl zaL) rfl ⟨_,_,_,rfl,HFI.out.1,HFI.out.2.1,HFI.out.2.2.1,HRM.out,HFI.out.2.2.2⟩
end Go.Proofs.YthlhgiihngcobaaGreatDoor
namespace Go.Proofs.YthlhgiihngcobaaGreatDoor
open Go.RowKit
theorem zj6(S F:Value)(hS:∃N,S=.func (.func N) #[] #[])(hF:∃N B C,F=.func (.func N) B C)(w0 w:World)(hb:Below w0.heap.size w0 w):Calls Tryz.prog 160 #[.agg #[S,F]] w fun e w'=>∃R,e=.returned (.pointer (some ⟨R,0,none⟩))/\∃c,zaq w0 w' R S F zBH c:=by obtain⟨N1,rfl⟩:=hS;obtain⟨N2,B2,C2,rfl⟩:=hF;have hmm:=@run_makeMap Tryz.prog;have HM:=zae (zwL w0 (w.alloc (.cells #[.func (.func N1) #[] #[],.func (.func N2) B2 C2] 165)) (hb.alloc hb.size _) (.func (.func N1) #[] #[]) (.func (.func N2) B2 C2));simp only[World.size_alloc]at HM;clear hb;go_enter Tryz.func160,Tryz.ntmps160;go_wp2_with fail;go_ret;exact⟨_,rfl,_,HM.out⟩
theorem zjH(w:World):zai w (.slice none 0 0) []:=⟨none,0,0,0,rfl,fun h=>absurd h (by simp),fun _=>⟨rfl,rfl⟩,.inr rfl,fun i hi=>by simp at hi⟩
theorem zaZ{P:Program}{fn:Func}{p q:Tmp}{ty:TypeId}(h:fn.results=#[.cell p ty,.tmp q])(tmps:Array Value)(w:World)(g:Nat)(t:TypeId)(cs:Array Value)(fr:Nat × Nat)(d:TypeDesc)(v:Value)
  (hp:tmps.getD p undef=.pointer (some ⟨g,0,none⟩)) (hq:tmps.getD q undef=v) (hg:w.heap[g]? = some (.cells cs t fr))
  (hu:P.underlying ty=some d) (hd:(match d with | .struct _ | .array _ _=>true | _=>false)=true) (hi:(P.info? ty).map (·.size)=some cs.size) :
  (results fn tmps).run P w=.ok (.tuple #[.agg cs,v]) w:=by
 have hp':tmps[p]?.getD undef=.pointer (some ⟨g,0,none⟩):=by simpa using hp
 have hq':tmps[q]?.getD undef=v:=by simpa using hq
 simp[results,h,hp',hq',asAddr,run_loadVar_row w g t ty cs fr d hg hu hd hi]
theorem zyi{K:World->Prop}{NS NF:Nat}{BF CF:Array Value}{seesF:Crs->Int->Int->Int}{fallF:Crs->Int->Bool}(cS:zbB NS)(cF:zbB NF)(hS:zk7 NS seesF)(hF:zn5 K NF BF CF fallF){w0 w:World}(hK0:K w0){R:Nat}{q:Crs}{c:zbZ}(h:zaq w0 w R (.func (.func NS) #[] #[]) (.func (.func NF) BF CF) q c)(hq:zaR 999 q)(o:Op3)(h1:1<=o.1)(h6:o.1<=6):Calls Tryz.prog 161 #[.pointer (some ⟨R,0,none⟩),.agg #[.int .i64 o.1,.int .i64 o.2.1,.int .i64 o.2.2]] w fun e w'=>e=.returned (.tuple #[])/\zcZ w0 w' R (.func (.func NS) #[] #[]) (.func (.func NF) BF CF) (stepQ seesF fallF q o):=by
 obtain⟨t,a,i⟩:=o;simp only at h1 h6;unfold stepQ;simp only;by_cases e1:a=1
 ·subst e1;rw[if_pos rfl];exact zvo cS hS h hq i h1 h6
 ·rw[if_neg e1];by_cases e2:a=2
  ·subst e2;rw[if_pos rfl];exact zq2 h hq i h1 h6
  ·rw[if_neg e2];by_cases e3:a=3
   ·subst e3;rw[if_pos rfl];exact znQ cF hF hK0 h hq i h1 h6
   ·rw[if_neg e3];exact zq6 h a i h1 h6 e1 e2 e3
theorem zaR.up{m n:Nat}{q:Crs}(h:zaR m q)(hm:m<=n):zaR n q:=⟨Nat.le_trans h.lenD hm,fun t=>Nat.le_trans (h.lenR t) hm,fun t=>Nat.le_trans (h.lenW t) hm,h.six,h.cnt,h.begs⟩
theorem zoN{K:World->Prop}{NS NF:Nat}{BF CF:Array Value}{seesF:Crs->Int->Int->Int}{fallF:Crs->Int->Bool}(cS:zbB NS)(cF:zbB NF)(hS:zk7 NS seesF)(hF:zn5 K NF BF CF fallF)(l:List Op3)(v:Value)(w:World)(hKw:∀W,Below w.heap.size w W->K W)(hI:zai w v l)(hc:(chk l).2=0):Calls Tryz.prog 93 #[v,.agg #[.func (.func NS) #[] #[],.func (.func NF) BF CF]] w fun e w'=>∃W0 R,e=.returned (.tuple #[.pointer (some ⟨R,0,none⟩),.nilIface])/\Below w.heap.size w W0/\zcZ W0 w' R (.func (.func NS) #[] #[]) (.func (.func NF) BF CF) (runQ seesF fallF l l.length):=by
 obtain⟨W0,hW0⟩:∃W,W=w.alloc (.cells #[.func (.func NS) #[] #[],.func (.func NF) BF CF] 165):=⟨_,rfl⟩;have hb0:Below w.heap.size w W0:=by rw[hW0];exact(Below.refl _ w).alloc (Nat.le_refl _) _
 have HB0:=zae hb0;have HKK:=zae (hKw W0 hb0);have HCK:=zae (check_ok l v W0 (hI.below hb0 (Nat.le_refl _)) hc);obtain⟨hl40,hop,hcalm⟩:=(zbq l).1 hc;have HOP:Hid (∀o∈l,isOpB o=true):=hop;have HOK:Hid (∀k,k<=l.length->zaR 40 (runQ seesF fallF l k)):=fun k hk=>(zh6 seesF fallF hop k hk).up (by omega);obtain⟨ad,b,off,cap,rfl,ha,-,hbB,hops⟩:=hI
 have HE:Hid (∀W,Below w.heap.size w W->∀k,k<l.length->ad=some ⟨b,off,none⟩/\b<w.heap.size/\W.cell? ⟨b,off+k*3,none⟩=some (.int .i64 (opAt l k).1)/\W.cell? ⟨b,off+k*3+1,none⟩=some (.int .i64 (opAt l k).2.1)/\W.cell? ⟨b,off+k*3+2,none⟩=some (.int .i64 (opAt l k).2.2)):=fun W hW k hk=>by
  refine⟨ha (by omega),?_,(hops.below hW hbB) k hk⟩;rcases hbB with h | h
  ·exact h
  ·subst h;simp at hk
 have HCA:Hid (∀(w w':World) (R:Nat) (q:Crs) (c:zbZ) (o:Op3),K w->zaq w w' R (.func (.func NS) #[] #[]) (.func (.func NF) BF CF) q c->zaR 40 q->1<=o.1->o.1<=6->Calls Tryz.prog 161 #[.pointer (some ⟨R,0,none⟩),.agg #[.int .i64 o.1,.int .i64 o.2.1,.int .i64 o.2.2]] w' fun e w2=>e=.returned (.tuple #[])/\zcZ w w2 R (.func (.func NS) #[] #[]) (.func (.func NF) BF CF) (stepQ seesF fallF q o)):=fun w w' R q c o hk h hq h1 h6=>zyi cS cF hS hF hk h (hq.up (by omega)) o h1 h6;have kr:W0.heap[w.heap.size]? = some (.cells #[.func (.func NS) #[] #[],.func (.func NF) BF CF] 165 (0,0)):=by rw[hW0];exact World.alloc_heap_new w _
 have hsz:W0.heap.size=w.heap.size+1:=by rw[hW0];simp
 have HKR:=zae kr;have HSZ:=zae hsz;clear hc hop hcalm ha hbB hops hb0 kr hsz hS hF cS cF hKw;go_enter Tryz.func93,Tryz.ntmps93
 go_upto_region 1 with(fail)
 rw[<-hW0];obtain⟨PR,hPR⟩:∃P,P=w.heap.size:=⟨_,rfl⟩;rw[<-hPR]at HKR ⊢;have HZZ:Hid (PR<W0.heap.size):=by have:=HSZ.out;show PR<_;omega
 clear hW0 hPR;go_wp2_with fail;refine HCK.out.mono ?_;rintro e w1 ⟨rfl,hb1⟩;have HB1:=zae hb1;have r0:w1.cell? ⟨PR,0,none⟩=some (.func (.func NS) #[] #[]):=by rw[cell_of_row w1 PR _ _ _ _ ((hb1.block PR HZZ.out).trans HKR.out)];rfl
 have r1:w1.cell? ⟨PR,1,none⟩=some (.func (.func NF) BF CF):=by rw[cell_of_row w1 PR _ _ _ _ ((hb1.block PR HZZ.out).trans HKR.out)];rfl
 clear hb1;go_wp2_with fail;refine(zj6 (.func (.func NS) #[] #[]) (.func (.func NF) BF CF) ⟨_,rfl⟩ ⟨_,_,_,rfl⟩ W0 w1 HB1.out).mono ?_;rintro e w2 ⟨R,rfl,c2,ho2⟩;have HO2:=zae ho2;clear ho2 r0 r1;go_wp2_with fail
 go_loopw [23] (fun v23 wr=>∃k:Nat,k<=l.length/\v23=.int .i64 k/\zcZ W0 wr R (.func (.func NS) #[] #[]) (.func (.func NF) BF CF) (runQ seesF fallF l k)) (fun v23 _=>l.length-(intOf v23).toNat)
 case atStart=>exact⟨0,Nat.zero_le _,rfl,c2,HO2.out⟩
 case round =>
  obtain⟨k,hk,rfl,ck,hok⟩:=hrel;have HK:=zae hok;clear hok HO2;by_cases hlt:k<l.length
  ·have hlt':(k:Int)<(l.length:Int):=by omega
   have HBW:Hid (Below w.heap.size w wr):=HB0.out.trans (HK.out.old.mono HB0.out.size);obtain⟨rfl,hbw,e0,e1,e2⟩:=HE.out wr HBW.out k hlt;obtain⟨⟨t,a,i⟩,ho⟩:∃o:Op3,opAt l k=o:=⟨_,rfl⟩;have hiso:isOpB (t,a,i)=true:=by rw[<-ho];exact HOP.out _ (zal hlt)
   have h16:=za1 hiso;have HNX:Hid (runQ seesF fallF l (k+1)=stepQ seesF fallF (runQ seesF fallF l k) (t,a,i)):=by show _=_;rw[runQ,ho]
   rw[ho]at e0 e1 e2;simp only at e0 e1 e2;have hbR:b<wr.heap.size:=Nat.lt_of_lt_of_le hbw HBW.out.size;have HCO:Hid (∀W,Below wr.heap.size wr W->Calls Tryz.prog 161 #[.pointer (some ⟨R,0,none⟩),.agg #[.int .i64 t,.int .i64 a,.int .i64 i]] W fun e w'=>e=.returned (.tuple #[])/\zcZ W0 w' R (.func (.func NS) #[] #[]) (.func (.func NF) BF CF) (stepQ seesF fallF (runQ seesF fallF l k) (t,a,i))):=fun W hW =>HCA.out W0 W R _ ck (t,a,i) HKK.out (HK.out.below hW) (HOK.out k hk) h16.1 h16.2;clear ho hiso h16;go_wp2_with fail;refine(HCO.out _ ((Below.refl _ wr).alloc (Nat.le_refl _) _)).mono ?_;rintro e w3 ⟨rfl,ho3⟩;have HO3:=zae ho3;clear ho3 e0 e1 e2;go_wp2_with fail;go_roundw
   case rel=>exact⟨k+1,by omega,by go_num,by rw[HNX.out];exact HO3.out⟩
   case measure=>simp[intOf];omega
  ·have hlt':¬(k:Int)<(l.length:Int):=by omega
   obtain rfl:k=l.length:=by omega
   clear hk hlt;go_wp2_with fail;go_ret2;exact⟨W0,R,rfl,HB0.out,ck,HK.out⟩
theorem zvw(S F:Value)(l:List Op3)(v:Value)(w:World)(hI:zai w v l)(hc:(chk l).2≠0):Calls Tryz.prog 93 #[v,.agg #[S,F]] w fun e w'=>e=.returned (.tuple #[.pointer none,.iface 80 (.int .i64 (chk l).2)])/\Below w.heap.size w w':=by
 obtain⟨W0,hW0⟩:∃W,W=w.alloc (.cells #[S,F] 165):=⟨_,rfl⟩;have hb0:Below w.heap.size w W0:=by rw[hW0];exact(Below.refl _ w).alloc (Nat.le_refl _) _
 have HB0:=zae hb0;have HCK:=zae (check_bad l v W0 (hI.below hb0 (Nat.le_refl _)) hc);obtain⟨ad,b,off,cap,rfl,-⟩:=hI;obtain⟨n,hn⟩:∃n,(chk l).2=n:=⟨_,rfl⟩;rw[hn]at HCK ⊢;clear hc hb0 hn;go_enter Tryz.func93,Tryz.ntmps93
 go_upto_region 1 with(fail)
 rw[<-hW0];clear hW0;go_wp2_with fail;refine HCK.out.mono ?_;rintro e w5 ⟨rfl,hb1⟩;have HBW:=zae hb1;clear hb1;go_wp2_with fail;go_ret2;exact⟨rfl,HB0.out.trans (HBW.out.mono HB0.out.size)⟩
theorem zmW{K:World->Prop}{NS NF:Nat}{BF CF:Array Value}{seesF:Crs->Int->Int->Int}{fallF:Crs->Int->Bool}(cS:zbB NS)(cF:zbB NF)(hS:zk7 NS seesF)(hF:zn5 K NF BF CF fallF)(l:List Op3)(v:Value)(w:World)(hKw:∀W,Below w.heap.size w W->K W)(hI:zai w v l):Calls Tryz.prog 88 #[v,.agg #[.func (.func NS) #[] #[],.func (.func NF) BF CF]] w fun e w'=>∃a1 a2 a3,e=.returned (.tuple #[.agg #[a1,a2,a3],zeH (chk l).2]) /\
   zaf w' a1 (if(chk l).2=0 then(runQ seesF fallF l l.length).done else[])/\zai w' a2 (if(chk l).2=0 then(runQ seesF fallF l l.length).done.flatMap (runQ seesF fallF l l.length).read else[])/\zaf w' a3 (if(chk l).2=0 then zit (runQ seesF fallF l l.length) 6 else[])/\zBO a1/\Below w.heap.size w w':=by
 obtain⟨W0,hW0⟩:∃W,W=(w.alloc (.cells #[.func (.func NS) #[] #[],.func (.func NF) BF CF] 165)).alloc (.cells #[.slice none 0 0,.slice none 0 0,.slice none 0 0] 77):=⟨_,rfl⟩;have hb0:Below w.heap.size w W0:=by rw[hW0];exact((Below.refl _ w).alloc (Nat.le_refl _) _).alloc (by simp) _
 have HB0:=zae hb0;have kz:W0.heap[w.heap.size+1]? = some (.cells #[.slice none 0 0,.slice none 0 0,.slice none 0 0] 77 (0,0)):=by rw[hW0];have:=World.alloc_heap_new (w.alloc (.cells #[.func (.func NS) #[] #[],.func (.func NF) BF CF] 165)) (.cells #[.slice none 0 0,.slice none 0 0,.slice none 0 0] 77);rwa [World.size_alloc]at this
 have kr:W0.heap[w.heap.size]? = some (.cells #[.func (.func NS) #[] #[],.func (.func NF) BF CF] 165 (0,0)):=by rw[hW0];exact(Below.heap_alloc _ _ _ (by simp)).trans (World.alloc_heap_new w _)
 have hsz:W0.heap.size=w.heap.size+2:=by rw[hW0];simp
 have HKZ:=zae kz;have HSZ:=zae hsz;have r0:W0.cell? ⟨w.heap.size,0,none⟩=some (.func (.func NS) #[] #[]):=by rw[cell_of_row W0 _ _ _ _ _ kr];rfl
 have r1:W0.cell? ⟨w.heap.size,1,none⟩=some (.func (.func NF) BF CF):=by rw[cell_of_row W0 _ _ _ _ _ kr];rfl
 by_cases hc:(chk l).2=0
 ·rw[if_pos hc,if_pos hc,if_pos hc];have HER:Hid (zeH (chk l).2=.nilIface):=by show _=_;rw[hc];exact if_pos rfl
  have HWH:=zae (zoN cS cF hS hF l v W0 (fun W hW=>hKw W (hb0.trans (hW.mono hb0.size))) (hI.below hb0 (Nat.le_refl _)) hc);obtain⟨hl40,hop,hcalm⟩:=(zbq l).1 hc;have HOK:Hid (zaR 100 (runQ seesF fallF l l.length)):=(zh6 seesF fallF hop l.length (Nat.le_refl _)).up (by omega);obtain⟨ad,b,off,cap,rfl,-⟩:=hI;clear hc hop hcalm hl40 hb0 kz kr hsz hS hF cS cF hKw;go_enter Tryz.func88,Tryz.ntmps88
  go_upto_region 1 with(fail)
  rw[<-hW0];obtain⟨Z,hZ⟩:∃Z,Z=w.heap.size+1:=⟨_,rfl⟩;rw[<-hZ]at HKZ ⊢;obtain⟨PR,hPR⟩:∃P,P=w.heap.size:=⟨_,rfl⟩;rw[<-hPR]at r0 r1 ⊢;have HZZ:Hid (Z<W0.heap.size/\w.heap.size<=Z):=by have:=HSZ.out;exact⟨by omega,by omega⟩
  clear hW0 hZ hPR;go_wp2_with fail;refine HWH.out.mono ?_;rintro e w2 ⟨W1,R,rfl,hb1,ck,hok⟩;have HB2:Hid (Below W0.heap.size W0 w2):=hb1.trans (hok.old.mono hb1.size);have kd:=hok.c2;obtain⟨adD,cD,eD,-⟩:=zad hok.done;have hID:=zap hok.done rfl;rw[eD]at kd hID;have HOC:=zae (zh1 hok HOK.out _ _ hID HOK.out.six HOK.out.lenD);obtain⟨ND,hND⟩:∃n,(runQ seesF fallF l l.length).done.length=n:=⟨_,rfl⟩;rw[hND]at kd HOC;have hRlt:=hok.lt;clear eD hID hND;clear hb1 hok r0 r1;go_wp2_with fail;refine HOC.out.mono ?_;rintro e w5 ⟨a1,a2,a3,rfl,hi1,hi2,hi3,hr,hb5⟩;have HBW:Hid (Below W0.heap.size W0 w5):=HB2.out.trans (hb5.mono HB2.out.size);have hz5:=(HBW.out.block Z HZZ.out.1).trans HKZ.out;have HF5:=zae (zyU hz5 HZZ.out.2 (HB0.out.trans (HBW.out.mono HB0.out.size)) (u1:=a1) (u2:=a2) (u3:=a3) hi1 hi2 hi3);have HRR:=zae hr;have z0:w5.cell? ⟨Z,0,none⟩=some (.slice none 0 0):=by rw[cell_of_row w5 Z _ _ _ _ hz5];rfl
  have z1:w5.cell? ⟨Z,1,none⟩=some (.slice none 0 0):=by rw[cell_of_row w5 Z _ _ _ _ hz5];rfl
  have z2:w5.cell? ⟨Z,2,none⟩=some (.slice none 0 0):=by rw[cell_of_row w5 Z _ _ _ _ hz5];rfl
  have y0:w5.frozen? ⟨Z,0,none⟩=false:=by simp[World.frozen?,hz5]
  have y1:w5.frozen? ⟨Z,1,none⟩=false:=by simp[World.frozen?,hz5]
  have y2:w5.frozen? ⟨Z,2,none⟩=false:=by simp[World.frozen?,hz5]
  obtain⟨d1,n1,p1,x1⟩:∃d n p,a1=.slice d n p:=by obtain⟨a,_,_,c,h,_⟩:=hi1;exact⟨a,_,c,h⟩
  obtain⟨d2,n2,p2,x2⟩:∃d n p,a2=.slice d n p:=by obtain⟨a,_,_,c,h,_⟩:=hi2;exact⟨a,_,c,h⟩
  obtain⟨d3,n3,p3,x3⟩:∃d n p,a3=.slice d n p:=by obtain⟨a,_,_,c,h,_⟩:=hi3;exact⟨a,_,c,h⟩
  subst x1 x2 x3;clear hi1 hi2 hi3 hr hb5 hz5;go_wp2_with fail;refine bodyPost_ret (v:=.tuple #[.agg #[.slice d1 n1 p1,.slice d2 n2 p2,.slice d3 n3 p3],.nilIface]) (zaZ Tryz.results88 _ _ Z 77 #[.slice d1 n1 p1,.slice d2 n2 p2,.slice d3 n3 p3] (0,0) _ .nilIface rfl rfl HF5.out.1 Tryz.underlying77 rfl zaL) rfl ⟨_,_,_,by rw[HER.out],HF5.out.2.1,HF5.out.2.2.1,HF5.out.2.2.2.1,HRR.out,HF5.out.2.2.2.2⟩
 ·rw[if_neg hc,if_neg hc,if_neg hc];have HER:Hid (zeH (chk l).2=.iface 80 (.int .i64 (chk l).2)):=by show _=_;unfold zeH;rw[if_neg hc]
  have HWH:=zae (zvw (.func (.func NS) #[] #[]) (.func (.func NF) BF CF) l v W0 (hI.below hb0 (Nat.le_refl _)) hc);obtain⟨ad,b,off,cap,rfl,-⟩:=hI;obtain⟨n,hn⟩:∃n,(chk l).2=n:=⟨_,rfl⟩;rw[hn]at HER HWH ⊢;clear hc hb0 kz kr hsz hS hF cS cF hn hKw;go_enter Tryz.func88,Tryz.ntmps88
  go_upto_region 1 with(fail)
  rw[<-hW0];obtain⟨Z,hZ⟩:∃Z,Z=w.heap.size+1:=⟨_,rfl⟩;rw[<-hZ]at HKZ ⊢;obtain⟨PR,hPR⟩:∃P,P=w.heap.size:=⟨_,rfl⟩;rw[<-hPR]at r0 r1 ⊢;have HZZ:Hid (Z<W0.heap.size/\w.heap.size<=Z):=by have:=HSZ.out;exact⟨by omega,by omega⟩
  clear hW0 hZ hPR;go_wp2_with fail;refine HWH.out.mono ?_;rintro e w5 ⟨rfl,hb1⟩;have HBW:=zae hb1;have hz5:=(HBW.out.block Z HZZ.out.1).trans HKZ.out;have HF5:=zae (zyU hz5 HZZ.out.2 (HB0.out.trans (HBW.out.mono HB0.out.size)) (u1:=.slice none 0 0) (u2:=.slice none 0 0) (u3:=.slice none 0 0) (za5 _) (zjH _) (za5 _));have z0:w5.cell? ⟨Z,0,none⟩=some (.slice none 0 0):=by rw[cell_of_row w5 Z _ _ _ _ hz5];rfl
  have z1:w5.cell? ⟨Z,1,none⟩=some (.slice none 0 0):=by rw[cell_of_row w5 Z _ _ _ _ hz5];rfl
  have z2:w5.cell? ⟨Z,2,none⟩=some (.slice none 0 0):=by rw[cell_of_row w5 Z _ _ _ _ hz5];rfl
  have y0:w5.frozen? ⟨Z,0,none⟩=false:=by simp[World.frozen?,hz5]
  have y1:w5.frozen? ⟨Z,1,none⟩=false:=by simp[World.frozen?,hz5]
  have y2:w5.frozen? ⟨Z,2,none⟩=false:=by simp[World.frozen?,hz5]
  clear hb1 hz5 r0 r1;go_wp2_with fail;refine bodyPost_ret (v:=.tuple #[.agg #[.slice none 0 0,.slice none 0 0,.slice none 0 0],.iface 80 (.int .i64 n)]) (zaZ Tryz.results88 _ _ Z 77 #[.slice none 0 0,.slice none 0 0,.slice none 0 0] (0,0) _ (.iface 80 (.int .i64 n)) rfl rfl HF5.out.1 Tryz.underlying77 rfl zaL) rfl ⟨_,_,_,by rw[HER.out],HF5.out.2.1,HF5.out.2.2.1,HF5.out.2.2.2.1,⟨_,_,_,rfl,Nat.le_refl _⟩,HF5.out.2.2.2.2⟩
theorem znR:zbB 89:=fun _ _=>by kernel_rfl
theorem zrC:zbB 90:=fun _ _=>by kernel_rfl
theorem outV(l:List Op3):outU 1 okV false l=((if(chk l).2=0 then(runQ seesV zgg l l.length).done else[],if(chk l).2=0 then(runQ seesV zgg l l.length).done.flatMap (runQ seesV zgg l l.length).read else[],if(chk l).2=0 then zit (runQ seesV zgg l l.length) 6 else[]),(chk l).2):=by
 by_cases hc:(chk l).2=0
 ·rw[if_pos hc,if_pos hc,if_pos hc,znV zAL hc,hc];rfl
 ·rw[if_neg hc,if_neg hc,if_neg hc,zfK hc]
theorem zBv:znm 33 1 okV false:=by
 intro l v w hI;rw[outV];have HRC:Hid (∀W,Below w.heap.size w W->_):=fun W hW=>zmW znR zrC zzh zAs.k l v W (fun _ _=>trivial) (hI.below hW (Nat.le_refl _));obtain⟨A,hA⟩:∃A,(if(chk l).2=0 then(runQ seesV zgg l l.length).done else[])=A:=⟨_,rfl⟩;obtain⟨B,hB⟩:∃B,(if(chk l).2=0 then(runQ seesV zgg l l.length).done.flatMap (runQ seesV zgg l l.length).read else[])=B:=⟨_,rfl⟩;obtain⟨C,hC⟩:∃C,(if(chk l).2=0 then zit (runQ seesV zgg l l.length) 6 else[])=C:=⟨_,rfl⟩;obtain⟨er,her⟩:∃e,zeH (chk l).2=e:=⟨_,rfl⟩
 have HER:Hid (er=.nilIface\/∃n,er=.iface 80 (.int .i64 n)):=by
  show _\/_;rw[<-her];unfold zeH;split
  ·exact .inl rfl
  ·exact .inr ⟨_,rfl⟩
 rw[hA,hB,hC,her]at HRC;simp only;rw[hA,hB,hC,her];obtain⟨ad,b,off,cap,rfl,-⟩:=hI;obtain⟨W0,hW0⟩:∃W,W=w.alloc (.cells #[.slice none 0 0,.slice none 0 0,.slice none 0 0] 77):=⟨_,rfl⟩;have hb0:Below w.heap.size w W0:=by rw[hW0];exact(Below.refl _ w).alloc (Nat.le_refl _) _
 have HB0:=zae hb0;have HCK:=zae (HRC.out W0 hb0);have kz:W0.heap[w.heap.size]? = some (.cells #[.slice none 0 0,.slice none 0 0,.slice none 0 0] 77 (0,0)):=by rw[hW0];exact World.alloc_heap_new w _
 have HKZ:=zae kz;have hsz:W0.heap.size=w.heap.size+1:=by rw[hW0];simp
 have HSZ:=zae hsz;clear hA hB hC her HRC hb0 kz hsz;go_enter Tryz.func33,Tryz.ntmps33
 go_upto_region 1 with(fail)
 rw[<-hW0];obtain⟨Z,hZ⟩:∃Z,Z=w.heap.size:=⟨_,rfl⟩;rw[<-hZ]at HKZ ⊢;have HZZ:Hid (Z<W0.heap.size/\w.heap.size<=Z):=by have:=HSZ.out;exact⟨by omega,by omega⟩
 clear hW0 hZ;go_wp2_with fail;refine HCK.out.mono ?_;rintro e w5 ⟨a1,a2,a3,rfl,hi1,hi2,hi3,hr,hb5⟩;have hz5:=(hb5.block Z HZZ.out.1).trans HKZ.out;have HF5:=zae (zyU hz5 HZZ.out.2 (HB0.out.trans (hb5.mono HB0.out.size)) (u1:=a1) (u2:=a2) (u3:=a3) hi1 hi2 hi3);have HRR:=zae hr;have z0:w5.cell? ⟨Z,0,none⟩=some (.slice none 0 0):=by rw[cell_of_row w5 Z _ _ _ _ hz5];rfl
 have z1:w5.cell? ⟨Z,1,none⟩=some (.slice none 0 0):=by rw[cell_of_row w5 Z _ _ _ _ hz5];rfl
 have z2:w5.cell? ⟨Z,2,none⟩=some (.slice none 0 0):=by rw[cell_of_row w5 Z _ _ _ _ hz5];rfl
 have y0:w5.frozen? ⟨Z,0,none⟩=false:=by simp[World.frozen?,hz5]
 have y1:w5.frozen? ⟨Z,1,none⟩=false:=by simp[World.frozen?,hz5]
 have y2:w5.frozen? ⟨Z,2,none⟩=false:=by simp[World.frozen?,hz5]
 obtain⟨d1,n1,p1,x1⟩:∃d n p,a1=.slice d n p:=by obtain⟨a,_,_,c,h,_⟩:=hi1;exact⟨a,_,c,h⟩
 obtain⟨d2,n2,p2,x2⟩:∃d n p,a2=.slice d n p:=by obtain⟨a,_,_,c,h,_⟩:=hi2;exact⟨a,_,c,h⟩
 obtain⟨d3,n3,p3,x3⟩:∃d n p,a3=.slice d n p:=by obtain⟨a,_,_,c,h,_⟩:=hi3;exact⟨a,_,c,h⟩
 subst x1 x2 x3;clear hi1 hi2 hi3 hr hb5 hz5;rcases HER.out with rfl | ⟨ne,rfl⟩
 ·go_wp2_with fail;exact bodyPost_ret (v:=.tuple #[.agg #[.slice d1 n1 p1,.slice d2 n2 p2,.slice d3 n3 p3],.nilIface]) (zaZ Tryz.results33 _ _ Z 77 #[.slice d1 n1 p1,.slice d2 n2 p2,.slice d3 n3 p3] (0,0) _ .nilIface rfl rfl HF5.out.1 Tryz.underlying77 rfl zaL) rfl ⟨_,_,_,rfl,HF5.out.2.1,HF5.out.2.2.1,HF5.out.2.2.2.1,HRR.out,HF5.out.2.2.2.2⟩
 ·go_wp2_with fail;exact bodyPost_ret (v:=.tuple #[.agg #[.slice d1 n1 p1,.slice d2 n2 p2,.slice d3 n3 p3],.iface 80 (.int .i64 ne)]) (zaZ Tryz.results33 _ _ Z 77 #[.slice d1 n1 p1,.slice d2 n2 p2,.slice d3 n3 p3] (0,0) _ (.iface 80 (.int .i64 ne)) rfl rfl HF5.out.1 Tryz.underlying77 rfl zaL) rfl ⟨_,_,_,rfl,HF5.out.2.1,HF5.out.2.2.1,HF5.out.2.2.2.1,HRR.out,HF5.out.2.2.2.2⟩
end Go.Proofs.YthlhgiihngcobaaGreatDoor
