/-
  PROVED HERE: view.follow goes over names as long as what is told is taken; view.firstOrder, with its closure that calls itself, gives the first order by numbers of which something is.
  Conditions: none but those that each theorem's own premises say.
-/
import Derived.Test.YthlhgiihngcobaaGreatDoorMgbk
import Derived.Deep.Cut
import Derived.Test.YthlhgiihngcobaaGreatDoorMgbe
set_option maxHeartbeats 32000000
set_option maxRecDepth 100000
namespace Go.Proofs.YthlhgiihngcobaaGreatDoor
open Go.RowKit Go.Maps
structure zaO(a B:Nat)(w w':World):Prop where
 os:w'.os=w.os
 tape:w'.tape=w.tape
 output:w'.output=w.output
 size:w.heap.size<=w'.heap.size
 block:∀k,k<B->k≠a->w'.heap[k]? = w.heap[k]?
theorem zaO.refl(a B:Nat)(w:World):zaO a B w w:=⟨rfl,rfl,rfl,Nat.le_refl _,fun _ _ _=>rfl⟩
theorem zaO.trans{a B:Nat}{w w1 w2:World}(h:zaO a B w w1)(k:zaO a B w1 w2):zaO a B w w2 :=⟨k.os.trans h.os,k.tape.trans h.tape,k.output.trans h.output,Nat.le_trans h.size k.size,fun j h1 h2=>(k.block j h1 h2).trans (h.block j h1 h2)⟩
theorem zaO.mono{a B C:Nat}{w w1:World}(h:zaO a B w w1)(hC:C<=B):zaO a C w w1:=⟨h.os,h.tape,h.output,h.size,fun k h1 h2=>h.block k (by omega) h2⟩
theorem zaO.of_below{a B:Nat}{w w1:World}(h:Below B w w1):zaO a B w w1:=⟨h.os,h.tape,h.output,h.size,fun k hk _=>h.block k hk⟩
theorem zaO.grown{a:Nat}{w w1:World}(h:zaO a w.heap.size w w1):w.grownBy w1 (some a):=⟨h.os,h.tape,h.output,h.size,fun k hk hne=>h.block k hk (fun e=>hne (by rw[e]))⟩
theorem zaO.of_grown{a:Nat}{w w1:World}(h:w.grownBy w1 (some a)):zaO a w.heap.size w w1:=⟨h.os,h.tape,h.output,h.size,fun k hk hne=>h.block k hk (fun e=>hne (Option.some.inj e))⟩
theorem zaO.below{a B:Nat}{w w1:World}(h:zaO a B w w1)(hs:w1.heap[a]? = w.heap[a]?):Below B w w1:=⟨h.os,h.tape,h.output,h.size,fun k hk=>by
 by_cases e:k=a
 ·rw[e];exact hs
 ·exact h.block k hk e⟩
def zai(l:List Op3)(k:Nat):Nat->Nm:=fun x=>zcz l k (x:Int)
theorem zgS{l:List Op3}{k:Nat}{x:Int}(h1:(opAt l k).2.1=2)(h2:(opAt l k).2.2=x)(hx:0<=x):zai l (k+1)=zm4 (zai l k) x.toNat (zah l k):=by
 funext y
 unfold zai zm4;by_cases e:y=x.toNat
 ·rw[if_pos e,zfU h1 (by rw[h2];omega)]
 ·rw[if_neg e,zdv (by rw[h2];omega)]
theorem zeY{l:List Op3}{k:Nat}(h:(opAt l k).2.1≠2):zai l (k+1)=zai l k:=by
 funext y
 unfold zai;rw[zdv fun hh=>h hh.1]
theorem zmC{l:List Op3}{k j:Nat}{x:Int}(h:zi5 l x k=some j):j<k:=(zj6 h).1
theorem zhw:Small zN:=⟨zby (by decide) (by decide),zby (by decide) (by decide),zby (by decide) (by decide),zby (by decide) (by decide)⟩
theorem zfa{l:List Op3}{k:Nat}(hl:l.length<=40)(hop:∀o∈l,isOpB o=true)(hk:k<=l.length)(x:Int):Small (zcz l k x):=by
 cases h:zi5 l x k with
 | none=>rw[zib h];exact zhw
 | some j=>rw[ze8 h];exact zbK hl hop (by have:=zmC h;omega)
theorem zfX{l:List Op3}{k:Nat}(hl:l.length<=40)(hop:∀o∈l,isOpB o=true)(hk:k<=l.length):Small (zb7 l k):=by
 unfold zb7;split
 ·exact zfa hl hop hk _
 ·exact zhw
theorem zck{w:World}{g k:Nat}{cs:Array Value}(h:k≠g):(w.setRow g cs).heap[k]? = w.heap[k]? := by unfold World.setRow;simp[Array.getElem?_modify,h.symm]
theorem zaO.setRow{a B:Nat}{w w1:World}{cs:Array Value}(h:zaO a B w w1):zaO a B w (w1.setRow B cs):=⟨h.os,h.tape,h.output,by simpa[World.setRow]using h.size,fun k h1 h2=>(zck (by omega)).trans (h.block k h1 h2)⟩
theorem zcK{P:Program}{fn:Func}{p q:Tmp}{ty:TypeId}(h:fn.results=#[.cell p ty,.tmp q])(tmps:Array Value)(w:World)(g:Nat)(t:TypeId)(cs:Array Value)(fr:Nat × Nat)(d:TypeDesc)(v:Value)
  (hp:tmps.getD p undef=.pointer (some ⟨g,0,none⟩)) (hq:tmps.getD q undef=v) (hg:w.heap[g]? = some (.cells cs t fr))
  (hu:P.underlying ty=some d) (hd:(match d with | .struct _ | .array _ _=>true | _=>false)=true) (hi:(P.info? ty).map (·.size)=some cs.size) :
  (results fn tmps).run P w=.ok (.tuple #[.agg cs,v]) w:=by
 have hp':tmps[p]?.getD undef=.pointer (some ⟨g,0,none⟩):=by simpa using hp
 have hq':tmps[q]?.getD undef=v:=by simpa using hq
 simp[results,h,hp',hq',asAddr,run_loadVar_row w g t ty cs fr d hg hu hd hi]
theorem zfe(l:List Op3)(nv cap:Value)(N M:Nat)(es:Array MapEntry)(clock:Nat)(w:World)(Inv:Nat->World->Prop)(ok:Nat->Bool)
  (hcall:∀(args:Array Value) (W:World),(callFunc N args).run Tryz.prog W=.ok (.enter N args) W)
  (hN:zaH w nv (zar l l.length)) (hl:l.length<=40) (hop:∀o∈l,isOpB o=true) (hM:w.heap[M]? = some (.map es clock)) (h0:Inv 0 w)
  (hkeep:∀k W W',Inv k W->W'.heap[M]? = W.heap[M]? -> Inv k W')
  (hstep:∀k,k<l.length->∀W,Inv k W->zaO M w.heap.size w W->Calls Tryz.prog N #[nmV (zah l k),nmV (zb7 l k),cap] W fun e W'=>e=.returned (.bool (ok k))/\Inv (if ok k=true then k+1 else k) W'/\zaO M W.heap.size W W') :
  Calls Tryz.prog 123 #[nv,.func (.func N) #[] #[cap]] w fun e w'=>∃k,k<=l.length/\(∀j,j<k->ok j=true)/\(k<l.length->ok k=false)/\e=.returned (.tuple #[.agg (cells28 (zai l k)),.bool (decide (k=l.length))])/\Inv k w'/\zaO M w.heap.size w w':=by
 obtain⟨ad,b,off,cp,rfl,hcel⟩:=zhe hN hM (zbn l l.length);have HC:Hid (∀W,zaO M w.heap.size w W->∀k,k<l.length->ad=some ⟨b,off,none⟩/\W.cell? ⟨b,off+k*4,none⟩=some (.int .i64 (zah l k).1.1)/\W.cell? ⟨b,off+k*4+1,none⟩=some (.int .i64 (zah l k).1.2.1)/\W.cell? ⟨b,off+k*4+2,none⟩=some (.int .i64 (zah l k).1.2.2)/\W.cell? ⟨b,off+k*4+3,none⟩=some (.int .i64 (zah l k).2)):=fun W hW k hk=>by have:=hcel W hW.grown k hk;rw[ziK l _ k hk]at this;exact this
 have hMl:M<w.heap.size:=(Array.getElem?_eq_some_iff.1 hM).1;have HOP:Hid (∀o∈l,isOpB o=true):=hop;have HST:Hid (∀k,k<l.length->∀W,Inv k W->zaO M w.heap.size w W->Calls Tryz.prog N #[nmV (zah l k),nmV (zb7 l k),cap] W fun e W'=>e=.returned (.bool (ok k))/\Inv (if ok k=true then k+1 else k) W'/\zaO M W.heap.size W W'):=hstep;have HKP:Hid (∀k W W',Inv k W->W'.heap[M]? = W.heap[M]? -> Inv k W'):=hkeep;have H0:Hid (Inv 0 w):=h0;clear hcel hN hM hop hstep hkeep h0;go_enter Tryz.func123,Tryz.ntmps123;go_wp2_with fail
 go_loopw [12] (fun v12 wr=>∃k:Nat,k<=l.length/\v12=.int .i64 k/\(∀j,j<k->ok j=true)/\Inv k wr/\zan wr (w.heap.size+1) (zai l k)/\zan wr w.heap.size (fun _=>zN)/\zaO M w.heap.size w wr) (fun v12 _=>l.length-(intOf v12).toNat)
 case atStart =>refine⟨0,Nat.zero_le _,rfl,fun j hj=>absurd hj (by omega),HKP.out 0 w _ H0.out ((((Below.refl _ w).alloc (Nat.le_refl _) _).alloc (by simp) _).block M hMl),?_,(ze6 w _ rfl).alloc _,zaO.of_below (((Below.refl _ w).alloc (Nat.le_refl _) _).alloc (by simp) _)⟩;have h1:=ze6 (w.alloc (.cells (cells28 fun _=>zN) 107)) _ rfl;rw[show(w.alloc (.cells (cells28 fun _=>zN) 107)).heap.size=w.heap.size+1 by simp]at h1;exact h1
 case round =>
  obtain⟨k,hk,rfl,hall,hinv,hla,hze,hsv⟩:=hrel;have HALL:Hid (∀j,j<k->ok j=true):=hall;have HINV:Hid (Inv k wr):=hinv;have HLA:Hid (zan wr (w.heap.size+1) (zai l k)):=hla;have HZE:Hid (zan wr w.heap.size (fun _=>zN)):=hze;have HSV:Hid (zaO M w.heap.size w wr):=hsv;have hsz:=hla.lt;clear hall hinv hla hze hsv;by_cases hlt:k<l.length
  ·have hlt':(k:Int)<(l.length:Int):=by omega
   obtain⟨rfl,c0,c1,c2,c3⟩:=HC.out wr HSV.out k hlt;obtain⟨⟨⟨t,a,x⟩,m⟩,hnm⟩:∃n,zah l k=n:=⟨_,rfl⟩;have ho:opAt l k=(t,a,x):=congrArg Prod.fst hnm;have hisop:=HOP.out _ (zaj hlt);rw[ho]at hisop;have HNM:Hid (zah l k=((t,a,x),m)):=hnm;have HO:Hid (opAt l k=(t,a,x)):=ho;have HIS:Hid (isOpB (t,a,x)=true):=hisop;rw[hnm]at c0 c1 c2 c3;simp only at c0 c1 c2 c3;clear hnm ho hisop
   go_upto_region 6 with(fail)
   obtain⟨W,hW⟩:∃W,W=(wr.alloc (.cells #[.int .i64 t,.int .i64 a,.int .i64 x,.int .i64 m] 105)).alloc (.cells #[.int .i64 0,.int .i64 0,.int .i64 0,.int .i64 0] 105):=⟨_,rfl⟩;rw[<-hW];obtain⟨P,hP⟩:∃P,P=wr.heap.size:=⟨_,rfl⟩;obtain⟨R,hR⟩:∃R,R=wr.heap.size+1:=⟨_,rfl⟩;rw[<-hR,<-hP];have p0:W.cell? ⟨P,0,none⟩=some (.int .i64 t):=by rw[hW,hP];simp
   have p1:W.cell? ⟨P,1,none⟩=some (.int .i64 a):=by rw[hW,hP];simp
   have p2:W.cell? ⟨P,2,none⟩=some (.int .i64 x):=by rw[hW,hP];simp
   have p3:W.cell? ⟨P,3,none⟩=some (.int .i64 m):=by rw[hW,hP];simp
   have q0:W.cell? ⟨R,0,none⟩=some (.int .i64 0):=by rw[hW,hR];simp
   have q1:W.cell? ⟨R,1,none⟩=some (.int .i64 0):=by rw[hW,hR];simp
   have q2:W.cell? ⟨R,2,none⟩=some (.int .i64 0):=by rw[hW,hR];simp
   have q3:W.cell? ⟨R,3,none⟩=some (.int .i64 0):=by rw[hW,hR];simp
   have z0:W.frozen? ⟨R,0,none⟩=false:=by rw[hW,hR];simp
   have z1:W.frozen? ⟨R,1,none⟩=false:=by rw[hW,hR];simp
   have z2:W.frozen? ⟨R,2,none⟩=false:=by rw[hW,hR];simp
   have z3:W.frozen? ⟨R,3,none⟩=false:=by rw[hW,hR];simp
   have hbw:Below wr.heap.size wr W:=by rw[hW];exact((Below.refl _ wr).alloc (Nat.le_refl _) _).alloc (by simp) _
   have hsR:R<W.heap.size:=by rw[hW,hR];simp
   have HLW:Hid (zan W (w.heap.size+1) (zai l k)):=HLA.out.below hbw hsz;have HZW:Hid (zan W w.heap.size (fun _=>zN)):=HZE.out.below hbw (by omega);have HIW:Hid (Inv k W):=HKP.out k wr W HINV.out (hbw.block M (by omega));have HSW:Hid (zaO M w.heap.size w W):=HSV.out.trans (zaO.of_below (hbw.mono (by omega)));have hPR:P<R:=by omega
   have hPB:w.heap.size+1<P:=by omega
   clear hW hP hR hbw HLA HZE HINV HSV c0 c1 c2 c3 hsz;have hne:¬R=P:=by omega
   have hne':¬P=R:=by omega
   by_cases ha1:a=1
   ·subst ha1;obtain⟨hx1,hx6⟩:=zce HIS.out (.inl rfl);simp only at hx1 hx6;have hx7:x<7:=by omega
    have hx0:0<=x:=by omega
    obtain⟨⟨⟨s1,s2,s3⟩,sm⟩,hsrc⟩:∃n,zai l k x.toNat=n:=⟨_,rfl⟩;obtain⟨d0,d1,d2,d3⟩:=HLW.out.cells (x:=x.toNat) (by omega) hsrc;have HSRC:Hid (zb7 l k=((s1,s2,s3),sm)):=by show zb7 l k=((s1,s2,s3),sm);rw[<-hsrc];unfold zb7 zai;rw[HO.out,if_pos rfl,show((x.toNat:Nat):Int)=x by omega]
    clear hsrc;go_wp2_with fail;obtain⟨V,hV⟩:∃V,V=(((W.setCell ⟨R,0,none⟩ (.int .i64 s1)).setCell ⟨R,1,none⟩ (.int .i64 s2)).setCell ⟨R,2,none⟩ (.int .i64 s3)).setCell ⟨R,3,none⟩ (.int .i64 sm):=⟨_,rfl⟩;rw[<-hV];have hbV:Below R W V:=by rw[hV];exact((((Below.refl R W).setCell (Nat.le_refl _) _).setCell (Nat.le_refl _) _).setCell (Nat.le_refl _) _).setCell (Nat.le_refl _) _
    have HLV:Hid (zan V (w.heap.size+1) (zai l k)):=HLW.out.below hbV (by omega);have HZV:Hid (zan V w.heap.size (fun _=>zN)):=HZW.out.below hbV (by omega);have HIV:Hid (Inv k V):=HKP.out k W V HIW.out (hbV.block M (by omega));have HSVV:Hid (zaO M w.heap.size w V):=HSW.out.trans (zaO.of_below (hbV.mono (by omega)));have v0:=(hbV.cell (p:=⟨P,0,none⟩) hPR).trans p0;have v1:=(hbV.cell (p:=⟨P,1,none⟩) hPR).trans p1;have v2:=(hbV.cell (p:=⟨P,2,none⟩) hPR).trans p2;have v3:=(hbV.cell (p:=⟨P,3,none⟩) hPR).trans p3;clear hV hbV d0 d1 d2 d3 p0 p1 p2 p3 q0 q1 q2 q3 z0 z1 z2 z3 HLW HZW HIW HSW hsR;have HSTK:Hid (Calls Tryz.prog N #[.agg #[.int .i64 t,.int .i64 1,.int .i64 x,.int .i64 m],.agg #[.int .i64 s1,.int .i64 s2,.int .i64 s3,.int .i64 sm],cap] V fun e W'=>e=.returned (.bool (ok k))/\Inv (if ok k=true then k+1 else k) W'/\zaO M V.heap.size V W'):=by have h1:=HST.out k hlt V HIV.out HSVV.out;rw[HNM.out,HSRC.out]at h1;exact h1
    refine HSTK.out.mono ?_;rintro e w1 ⟨rfl,hin1,hsv1⟩;have HL1:Hid (zan w1 (w.heap.size+1) (zai l k)):=HLV.out.same (hsv1.block _ HLV.out.lt (by omega));have HZ1:Hid (zan w1 w.heap.size (fun _=>zN)):=HZV.out.same (hsv1.block _ HZV.out.lt (by omega));have HS1:Hid (zaO M w.heap.size w w1):=HSVV.out.trans (hsv1.mono HSVV.out.size);have hPV:P<V.heap.size:=World.block_lt_of_cell? V _ v0;have e0:w1.cell? ⟨P,0,none⟩=some (.int .i64 t):=(World.cell?_of_block (a:=⟨P,0,none⟩) (hsv1.block P hPV (by omega))).trans v0;have e1:w1.cell? ⟨P,1,none⟩=some (.int .i64 1):=(World.cell?_of_block (a:=⟨P,1,none⟩) (hsv1.block P hPV (by omega))).trans v1;have e2:w1.cell? ⟨P,2,none⟩=some (.int .i64 x):=(World.cell?_of_block (a:=⟨P,2,none⟩) (hsv1.block P hPV (by omega))).trans v2;have e3:w1.cell? ⟨P,3,none⟩=some (.int .i64 m):=(World.cell?_of_block (a:=⟨P,3,none⟩) (hsv1.block P hPV (by omega))).trans v3;clear v0 v1 v2 v3 hsv1 HSTK HIV HSVV HLV HZV hPV;cases hok:ok k with
    | false =>rw[hok]at hin1;have HI1:Hid (Inv k w1):=hin1;have HOK:Hid (ok k=false):=hok;clear hin1 hok;go_wp2_with (first | refine wpList_load_row rfl 107 (.tmp 6) rfl (w.heap.size+1) rfl 107 (cells28 (zai l k)) (0,0) _ HL1.out Tryz.underlying107 rfl (zaq _) ?_ | refine wpList_store_row rfl 107 (.tmp 4) (.tmp 30) rfl w.heap.size (cells28 (zai l k)) rfl rfl 107 (cells28 fun _=>zN) HZ1.out (zaq _) (by rw[zab,zab]) (zaV _) ?_);exact bodyPost_ret (v:=.tuple #[.agg (cells28 (zai l k)),.bool false]) (zcK Tryz.results123 _ _ w.heap.size 107 (cells28 (zai l k)) (0,0) _ _ rfl rfl (setRow_heap _ _ _ _ _ _ HZ1.out) Tryz.underlying107 rfl (zaq _)) rfl ⟨k,by omega,HALL.out,fun _=>HOK.out,by rw[show decide (k=l.length)=false from decide_eq_false (by omega)],HKP.out k w1 _ HI1.out (zck (by omega)),HS1.out.setRow⟩
    | true =>
      rw[hok]at hin1;have HI1:Hid (Inv (k+1) w1):=hin1
      have HOK:Hid (∀j,j<k+1->ok j=true):=fun j hj=>by
       rcases Nat.lt_or_ge j k with h | h
       ·exact HALL.out j h
       ·rw[show j=k by omega];exact hok
      clear hin1 hok;have HF:Hid (zai l (k+1)=zai l k):=zeY (by rw[HO.out];show(1:Int)≠2;decide);go_wp2_with fail;go_roundw
      case rel=>exact⟨k+1,by omega,by go_num,HOK.out,HI1.out,by rw[HF.out];exact HL1.out,HZ1.out,HS1.out⟩
      case measure=>simp[intOf];omega
   ·have ha1':(a == 1)=false:=by simpa using ha1
    have HSRC:Hid (zb7 l k=zN):=by show zb7 l k=zN;unfold zb7;rw[HO.out,if_neg ha1]
    clear ha1;have HLV:Hid (zan W (w.heap.size+1) (zai l k)):=HLW.out;have HZV:Hid (zan W w.heap.size (fun _=>zN)):=HZW.out;have HIV:Hid (Inv k W):=HIW.out;have HSVV:Hid (zaO M w.heap.size w W):=HSW.out;clear HLW HZW HIW HSW;go_wp2_with fail;have v0:=p0;have v1:=p1;have v2:=p2;have v3:=p3;clear p0 p1 p2 p3 q0 q1 q2 q3 z0 z1 z2 z3;have HSTK:Hid (Calls Tryz.prog N #[.agg #[.int .i64 t,.int .i64 a,.int .i64 x,.int .i64 m],.agg #[.int .i64 0,.int .i64 0,.int .i64 0,.int .i64 0],cap] W fun e W'=>e=.returned (.bool (ok k))/\Inv (if ok k=true then k+1 else k) W'/\zaO M W.heap.size W W'):=by have h1:=HST.out k hlt W HIV.out HSVV.out;rw[HNM.out,HSRC.out]at h1;exact h1
    refine HSTK.out.mono ?_;rintro e w1 ⟨rfl,hin1,hsv1⟩;have HL1:Hid (zan w1 (w.heap.size+1) (zai l k)):=HLV.out.same (hsv1.block _ HLV.out.lt (by omega));have HZ1:Hid (zan w1 w.heap.size (fun _=>zN)):=HZV.out.same (hsv1.block _ HZV.out.lt (by omega));have HS1:Hid (zaO M w.heap.size w w1):=HSVV.out.trans (hsv1.mono HSVV.out.size);have hPV:P<W.heap.size:=World.block_lt_of_cell? W _ v0;have e0:w1.cell? ⟨P,0,none⟩=some (.int .i64 t):=(World.cell?_of_block (a:=⟨P,0,none⟩) (hsv1.block P hPV (by omega))).trans v0;have e1:w1.cell? ⟨P,1,none⟩=some (.int .i64 a):=(World.cell?_of_block (a:=⟨P,1,none⟩) (hsv1.block P hPV (by omega))).trans v1;have e2:w1.cell? ⟨P,2,none⟩=some (.int .i64 x):=(World.cell?_of_block (a:=⟨P,2,none⟩) (hsv1.block P hPV (by omega))).trans v2;have e3:w1.cell? ⟨P,3,none⟩=some (.int .i64 m):=(World.cell?_of_block (a:=⟨P,3,none⟩) (hsv1.block P hPV (by omega))).trans v3;clear v0 v1 v2 v3 hsv1 HSTK HIV HSVV HLV HZV hPV;cases hok:ok k with
    | false =>rw[hok]at hin1;have HI1:Hid (Inv k w1):=hin1;have HOK:Hid (ok k=false):=hok;clear hin1 hok;go_wp2_with (first | refine wpList_load_row rfl 107 (.tmp 6) rfl (w.heap.size+1) rfl 107 (cells28 (zai l k)) (0,0) _ HL1.out Tryz.underlying107 rfl (zaq _) ?_ | refine wpList_store_row rfl 107 (.tmp 4) (.tmp 30) rfl w.heap.size (cells28 (zai l k)) rfl rfl 107 (cells28 fun _=>zN) HZ1.out (zaq _) (by rw[zab,zab]) (zaV _) ?_);exact bodyPost_ret (v:=.tuple #[.agg (cells28 (zai l k)),.bool false]) (zcK Tryz.results123 _ _ w.heap.size 107 (cells28 (zai l k)) (0,0) _ _ rfl rfl (setRow_heap _ _ _ _ _ _ HZ1.out) Tryz.underlying107 rfl (zaq _)) rfl ⟨k,by omega,HALL.out,fun _=>HOK.out,by rw[show decide (k=l.length)=false from decide_eq_false (by omega)],HKP.out k w1 _ HI1.out (zck (by omega)),HS1.out.setRow⟩
    | true =>
      rw[hok]at hin1;have HI1:Hid (Inv (k+1) w1):=hin1
      have HOK:Hid (∀j,j<k+1->ok j=true):=fun j hj=>by
       rcases Nat.lt_or_ge j k with h | h
       ·exact HALL.out j h
       ·rw[show j=k by omega];exact hok
      clear hin1 hok;by_cases ha2:a=2
      ·subst ha2;obtain⟨hx1,hx6⟩:=zce HIS.out (.inr rfl);simp only at hx1 hx6;have hx7:x<7:=by omega
       have hx0:0<=x:=by omega
       obtain⟨⟨⟨s1,s2,s3⟩,sm⟩,hsrc⟩:∃n,zai l k x.toNat=n:=⟨_,rfl⟩;obtain⟨d0,d1,d2,d3⟩:=HL1.out.cells (x:=x.toNat) (by omega) hsrc;clear hsrc;have y0:=HL1.out.thaw (x.toNat*4);have y1:=HL1.out.thaw (x.toNat*4+1);have y2:=HL1.out.thaw (x.toNat*4+2);have y3:=HL1.out.thaw (x.toNat*4+3);have HF:Hid (zai l (k+1)=zm4 (zai l k) x.toNat ((t,2,x),m)):=by show zai l (k+1)=zm4 (zai l k) x.toNat ((t,2,x),m);rw[<-HNM.out];exact zgS (by rw[HO.out]) (by rw[HO.out]) hx0
       have HLN:Hid (zan ((((w1.setCell ⟨w.heap.size+1,x.toNat*4,none⟩ (.int .i64 t)).setCell ⟨w.heap.size+1,x.toNat*4+1,none⟩ (.int .i64 2)).setCell ⟨w.heap.size+1,x.toNat*4+2,none⟩ (.int .i64 x)).setCell ⟨w.heap.size+1,x.toNat*4+3,none⟩ (.int .i64 m)) (w.heap.size+1) (zai l (k+1))):=by rw[HF.out];exact HL1.out.set x.toNat ((t,2,x),m)
       have HBN:Hid (Below (w.heap.size+1) w1 ((((w1.setCell ⟨w.heap.size+1,x.toNat*4,none⟩ (.int .i64 t)).setCell ⟨w.heap.size+1,x.toNat*4+1,none⟩ (.int .i64 2)).setCell ⟨w.heap.size+1,x.toNat*4+2,none⟩ (.int .i64 x)).setCell ⟨w.heap.size+1,x.toNat*4+3,none⟩ (.int .i64 m))):=by refine((((Below.refl (w.heap.size+1) w1).setCell ?_ _).setCell ?_ _).setCell ?_ _).setCell ?_ _ <;> exact Nat.le_refl _
       go_wp2_with fail;go_roundw
       case rel=>exact⟨k+1,by omega,by go_num,HOK.out,HKP.out _ w1 _ HI1.out (HBN.out.block M (by omega)),HLN.out,HZ1.out.below HBN.out (by omega),HS1.out.trans (zaO.of_below (HBN.out.mono (by omega)))⟩
       case measure=>simp[intOf];omega
      ·have ha2':(a == 2)=false:=by simpa using ha2
       have HF:Hid (zai l (k+1)=zai l k):=zeY (by rw[HO.out];exact ha2);clear ha2;go_wp2_with fail;go_roundw
       case rel=>exact⟨k+1,by omega,by go_num,HOK.out,HI1.out,by rw[HF.out];exact HL1.out,HZ1.out,HS1.out⟩
       case measure=>simp[intOf];omega
  ·have hlt':¬(k:Int)<(l.length:Int):=by omega
   obtain rfl:k=l.length:=by omega
   go_wp2_with (first | refine wpList_load_row rfl 107 (.tmp 6) rfl (w.heap.size+1) rfl 107 (cells28 (zai l l.length)) (0,0) _ HLA.out Tryz.underlying107 rfl (zaq _) ?_ | refine wpList_store_row rfl 107 (.tmp 4) (.tmp 41) rfl w.heap.size (cells28 (zai l l.length)) rfl rfl 107 (cells28 fun _=>zN) HZE.out (zaq _) (by rw[zab,zab]) (zaV _) ?_);exact bodyPost_ret (v:=.tuple #[.agg (cells28 (zai l l.length)),.bool true]) (zcK Tryz.results123 _ _ w.heap.size 107 (cells28 (zai l l.length)) (0,0) _ _ rfl rfl (setRow_heap _ _ _ _ _ _ HZE.out) Tryz.underlying107 rfl (zaq _)) rfl ⟨l.length,Nat.le_refl _,HALL.out,fun h=>absurd h (by omega),by simp,HKP.out _ wr _ HINV.out (zck (by omega)),HSV.out.setRow⟩
end Go.Proofs.YthlhgiihngcobaaGreatDoor
namespace Go.Proofs.YthlhgiihngcobaaGreatDoor
open Go.RowKit
theorem zjg{w:World}{base e g n cap k:Nat}{xs:List Value}(h:w.ownsRow base e 1 (.slice (some ⟨g,0,none⟩) n cap) n xs)(hk:k<=n):w.ownsRow base e 1 (.slice (some ⟨g,0,none⟩) k cap) k (xs.take k):=by
 obtain⟨hl,⟨hv,_⟩ | ⟨g',cap',cur,hv,hb,hg,hn,hm,hs,ht⟩⟩:=h
 ·cases hv
 ·simp only[Value.slice.injEq,Option.some.injEq,Addr.mk.injEq,and_true,true_and]at hv;obtain⟨rfl,rfl⟩:=hv;refine⟨by simp;omega,.inr ⟨g,cap,cur,rfl,hb,hg,by omega,hm,hs,?_⟩⟩;rw[<-ht,List.take_take,Nat.mul_one,Nat.mul_one,Nat.min_eq_left hk]
theorem zgi{w:World}{base e n:Nat}{v:Value}{xs:List Value}(h:w.ownsRow base e 1 v n xs)(hn:0<n):∃g cap,v=.slice (some ⟨g,0,none⟩) n cap/\base<=g/\n<=cap:=by
 obtain⟨_,⟨_,h0⟩ | ⟨g,cap,cur,hv,hb,_,hc,_⟩⟩:=h
 ·omega
 ·exact⟨g,cap,hv,hb,hc⟩
theorem zaO.set{a B:Nat}{w w1:World}(h:zaO a B w w1)(o:Nat)(v:Value):zaO a B w (w1.setCell ⟨a,o,none⟩ v) :=⟨h.os,h.tape,h.output,by simpa using h.size,fun k h1 h2=>(Below.heap_setCell w1 ⟨a,o,none⟩ v k h2).trans (h.block k h1 h2)⟩
theorem zaO.cell{a B:Nat}{w w1:World}(h:zaO a B w w1){p:Addr}(hp:p.block<B)(ha:p.block≠a):w1.cell? p=w.cell? p:=World.cell?_of_block (h.block _ hp ha)
theorem zaO.under{a B:Nat}{w w1:World}(h:zaO a B w w1){C:Nat}(hC:C<=B)(ha:C<=a):Below C w w1:=⟨h.os,h.tape,h.output,h.size,fun k hk=>h.block k (by omega) (by omega)⟩
def zi7(r:List Int):List Value:=r.map (Value.int .i64)
theorem zjR(r:List Int)(t:Int):zi7 (r++[t])=zi7 r++[.int .i64 t]:=by simp[zi7]
theorem zjO(r:List Int)(k:Nat):(zi7 r).take k=zi7 (r.take k):=by simp[zi7,List.map_take]
structure zcH(w:World)(p0 p1 p2 p3 base:Nat)(dv sv:Value)(v:Value)(b:List Int):Prop where
 order:w.cell? ⟨p0,0,none⟩=some v
 thaw:w.frozen? ⟨p0,0,none⟩=false
 own:w.ownsRow base 3 1 v b.length (zi7 b)
 deals:w.cell? ⟨p1,0,none⟩=some dv
 so:w.cell? ⟨p2,0,none⟩=some sv
 fn:w.cell? ⟨p3,0,none⟩=some (.func (.func 128) #[] #[.pointer (some ⟨p0,0,none⟩),.pointer (some ⟨p1,0,none⟩),.pointer (some ⟨p2,0,none⟩),.pointer (some ⟨p3,0,none⟩)])
 lt:p0<base/\p1<base/\p2<base/\p3<base/\base<=w.heap.size
 ne:p1≠p0/\p2≠p0/\p3≠p0
theorem zcH.past{w w1:World}{p0 p1 p2 p3 base:Nat}{dv sv v v1:Value}{r r1:List Int}(h:zcH w p0 p1 p2 p3 base dv sv v r)(hp:zaO p0 base w w1)
  (h1:w1.cell? ⟨p0,0,none⟩=some v1) (h2:w1.frozen? ⟨p0,0,none⟩=false) (h3:w1.ownsRow base 3 1 v1 r1.length (zi7 r1)):zcH w1 p0 p1 p2 p3 base dv sv v1 r1 where
 order:=h1
 thaw:=h2
 own:=h3
 deals:=(hp.cell (p:=⟨p1,0,none⟩) h.lt.2.1 h.ne.1).trans h.deals
 so:=(hp.cell (p:=⟨p2,0,none⟩) h.lt.2.2.1 h.ne.2.1).trans h.so
 fn:=(hp.cell (p:=⟨p3,0,none⟩) h.lt.2.2.2.1 h.ne.2.2).trans h.fn
 lt:=⟨h.lt.1,h.lt.2.1,h.lt.2.2.1,h.lt.2.2.2.1,Nat.le_trans h.lt.2.2.2.2 hp.size⟩
 ne:=h.ne
theorem zcH.below{w w1:World}{p0 p1 p2 p3 base:Nat}{dv sv v:Value}{r:List Int}(h:zcH w p0 p1 p2 p3 base dv sv v r)(hb:Below w.heap.size w w1):zcH w1 p0 p1 p2 p3 base dv sv v r :=
 have hl:p0<w.heap.size:=by have:=h.lt;omega
 h.past (zaO.of_below (hb.mono h.lt.2.2.2.2)) ((hb.cell (p:=⟨p0,0,none⟩) hl).trans h.order) ((hb.frozen (p:=⟨p0,0,none⟩) hl).trans h.thaw) (zat h.own hb (Nat.le_refl _))
structure zoe(ds:List Int)(dv:Value)(N:Nat)(pa pb:Value)(p:List Int->Bool)(p0 base:Nat)(w0:World):Prop where
 len:ds.length<=6
 deals:∀W,zaO p0 base w0 W->zak W dv ds
 call:∀(args:Array Value) (W:World),(callFunc N args).run Tryz.prog W=.ok (.enter N args) W
 says:∀W,zaO p0 base w0 W->∀ov b,zak W ov b->zcC ds b->b.length=ds.length->Calls Tryz.prog N #[ov,pa,pb] W fun e W'=>e=.returned (.bool (p b))/\Below W.heap.size W W'
def zkD(ds:List Int)(dv:Value)(N:Nat)(pa pb:Value)(p:List Int->Bool)(p0 p1 p2 p3 base:Nat)(w0:World)(f:Nat):Prop:=∀(b:List Int) (w:World) (v:Value),b.length+f=ds.length->zcC ds b->zcH w p0 p1 p2 p3 base dv (.func (.func N) #[] #[pa,pb]) v b->zaO p0 base w0 w ->
 Calls Tryz.prog 128 #[.pointer (some ⟨p0,0,none⟩),.pointer (some ⟨p1,0,none⟩),.pointer (some ⟨p2,0,none⟩),.pointer (some ⟨p3,0,none⟩)] w fun e w'=>(∃v' b',((tryO ds p f b=some b'/\e=.returned (.bool true))\/(tryO ds p f b=none/\b'=b/\e=.returned (.bool false)))/\zcH w' p0 p1 p2 p3 base dv (.func (.func N) #[] #[pa,pb]) v' b')/\zaO p0 base w w'
theorem zc1{w:World}{base e n:Nat}{v:Value}{xs:List Value}(h:w.ownsRow base e 1 v n xs):∃ad cap,v=.slice ad n cap:=by
 obtain⟨_,⟨h1,h2⟩ | ⟨g,cap,cur,h1,_⟩⟩:=h
 ·exact⟨none,0,by rw[h1,h2]⟩
 ·exact⟨_,cap,h1⟩
theorem zlY{ds:List Int}{dv:Value}{N:Nat}{pa pb:Value}{p:List Int->Bool}{p0 p1 p2 p3 base:Nat}{w0:World}(hA:zoe ds dv N pa pb p p0 base w0):zkD ds dv N pa pb p p0 p1 p2 p3 base w0 0:=by
 intro b w v hn hB hT hS;have hcall:=hA.call;have HT:Hid (zcH w p0 p1 p2 p3 base dv (.func (.func N) #[] #[pa,pb]) v b):=hT;have HSO:Hid (Calls Tryz.prog N #[v,pa,pb] w fun e W'=>e=.returned (.bool (p b))/\Below w.heap.size w W'):=hA.says w hS v b (zaF hT.own rfl) hB (by omega);have hdI:=hA.deals w hS;obtain⟨ad,cap,hv⟩:=zc1 hT.own;obtain⟨ad2,b2,off2,cap2,hdv,-⟩:=hdI;subst hv hdv;have c0:=hT.order;have c1:=hT.deals;have c2:=hT.so;have HR:Hid (tryO ds p 0 b=if p b=true then some b else none):=rfl;obtain⟨ln,hln⟩:∃ln,ds.length=ln:=⟨_,rfl⟩;have hbl:b.length=ln:=by omega
 rw[hbl]at c0 HSO HT;rw[hln]at c1 HT;have HLN:Hid (ds.length=ln):=hln;have hbase:=hT.lt.2.2.2.2;obtain⟨q,hq⟩:∃q,p b=q:=⟨_,rfl⟩;rw[hq]at HSO HR;clear hA hT hS hB hn hln hbl hq;go_enter Tryz.func128,Tryz.ntmps128;go_wp2_with fail;refine HSO.out.mono ?_;rintro e w1 ⟨rfl,hb1⟩;have HT1:=HT.out.below hb1;have HS1:zaO p0 base w w1:=zaO.of_below (hb1.mono hbase);cases q with
 | true =>have HQ:Hid (tryO ds p 0 b=some b):=HR.out;go_wp2_with fail;go_ret;exact⟨⟨_,b,.inl ⟨HQ.out,rfl⟩,by rw[HLN.out];exact HT1⟩,HS1⟩
 | false =>have HQ:Hid (tryO ds p 0 b=none):=HR.out;go_wp2_with fail;go_ret;exact⟨⟨_,b,.inr ⟨HQ.out,rfl,rfl⟩,by rw[HLN.out];exact HT1⟩,HS1⟩
theorem zlb{ds:List Int}{dv:Value}{N:Nat}{pa pb:Value}{p:List Int->Bool}{p0 p1 p2 p3 base:Nat}{w0:World}(hA:zoe ds dv N pa pb p p0 base w0)(f:Nat)(ih:zkD ds dv N pa pb p p0 p1 p2 p3 base w0 f):zkD ds dv N pa pb p p0 p1 p2 p3 base w0 (f+1):=by
 intro b w v hn hB hT hS;have HA:Hid (zoe ds dv N pa pb p p0 base w0):=hA;have IH:Hid (zkD ds dv N pa pb p p0 p1 p2 p3 base w0 f):=ih;have HBG:Hid (zcC ds b):=hB;have HT:Hid (zcH w p0 p1 p2 p3 base dv (.func (.func N) #[] #[pa,pb]) v b):=hT;have HS:Hid (zaO p0 base w0 w):=hS;have hd6:=hA.len;obtain⟨i0,hi,hz0,hs0,hy0⟩:=info_parts zdT;have HI:Hid (Tryz.prog.info? 3=some i0/\i0.zero=some (.int .i64 0)/\i0.size=1/\i0.bytes=8):=⟨hi,hz0,hs0,hy0⟩;obtain⟨ad,cap,hv⟩:=zc1 hT.own;subst hv;have c0:=hT.order;have c1:=hT.deals;obtain⟨ad2,b2,off2,cap2,hdv,-⟩:=hA.deals w hS;rw[hdv]at c1;have HDV:Hid (dv=.slice ad2 ds.length cap2):=hdv;obtain⟨bl,hbl⟩:∃bl,b.length=bl:=⟨_,rfl⟩;have HBL:Hid (b.length=bl):=hbl;rw[hbl]at c0 hn;obtain⟨ln,hln⟩:∃ln,ds.length=ln:=⟨_,rfl⟩;have HLN:Hid (ds.length=ln):=hln;rw[hln]at c1 hn hd6;have hne:((bl:Int) == (ln:Int))=false:=by simp;omega
 have hb5:bl<=5:=by omega
 have hF:bl+f+1=ln:=by omega
 have HF:Hid (bl+f+1=ln):=hF;clear hA ih hB hT hS hi hz0 hs0 hy0 hdv hbl hln hn hF;go_enter Tryz.func128,Tryz.ntmps128;go_wp2_with fail
 go_loopw [17] (fun v17 wr=>∃(k:Nat) (vk:Value),k<=ln/\v17=.int .i64 k/\zcH wr p0 p1 p2 p3 base dv (.func (.func N) #[] #[pa,pb]) vk b/\zaO p0 base w wr/\(∀j,j<k->ds.getD j 0 ∉ b->tryO ds p f (b++[ds.getD j 0])=none)) (fun v17 _=>ln-(intOf v17).toNat)
 case atStart=>exact⟨0,_,Nat.zero_le _,rfl,HT.out,zaO.refl _ _ _,fun j hj=>absurd hj (by omega)⟩
 case round =>
  clear c0 c1;obtain⟨k,vk,hk,rfl,hK,hpast,hno⟩:=hrel;have HK:Hid (zcH wr p0 p1 p2 p3 base dv (.func (.func N) #[] #[pa,pb]) vk b):=hK;have HNO:Hid (∀j,j<k->ds.getD j 0 ∉ b->tryO ds p f (b++[ds.getD j 0])=none):=hno;have HP:Hid (zaO p0 base w wr):=hpast;have HPW:Hid (zaO p0 base w0 wr):=HS.out.trans hpast;clear hK hno hpast;by_cases hlt:k<ln
  ·have hlt':(k:Int)<(ln:Int):=by omega
   obtain⟨ad3,b3,off3,cap3,hdv3,ha3,-,-,hc3⟩:=HA.out.deals wr HPW.out;have hkd:k<ds.length:=by rw[HLN.out];exact hlt
   have d0:=hc3 k hkd;have had:=ha3 (by omega);rw[HDV.out]at hdv3;simp only[Value.slice.injEq]at hdv3;obtain⟨e1,-,-⟩:=hdv3;rw[<-e1]at had;subst had;clear e1 hc3 ha3;obtain⟨t,ht⟩:∃t,ds.getD k 0=t:=⟨_,rfl⟩;rw[ht]at d0;have htm:t∈ds:=by rw[<-ht];exact zlv hkd
   have HTT:Hid (ds.getD k 0=t/\t∈ds/\k<ds.length):=⟨ht,htm,hkd⟩;clear ht htm hkd;obtain⟨adk,capk,hvk⟩:∃ad cap,vk=.slice ad bl cap:=by obtain⟨a1,a2,a3⟩:=zc1 HK.out.own;exact⟨a1,a2,by rw[<-HBL.out];exact a3⟩
   subst hvk;have c0:=HK.out.order;have hbase:=HK.out.lt.2.2.2.2;have hp0:p0<wr.heap.size:=by have:=HK.out.lt.1;omega
   have h30:=HK.out.ne.2.2;have h03:¬p0=p3:=fun e=>h30 e.symm;have HOWN:Hid (wr.ownsRow base 3 1 (.slice adk bl capk) bl (zi7 b)):=by have h1:=HK.out.own;rw[HBL.out]at h1;exact h1
   have HIN:Hid (zak wr (.slice adk bl capk) b):=zaF HOWN.out HBL.out;cases hin:inB b t with
   | true =>
     have HIB:Hid (t∈b):=zaT.1 hin;go_wp2_with fail;refine(contains_ints b _ t _ HIN.out (by have:=HBL.out;omega)).mono ?_;rintro e w1 ⟨rfl,hw1⟩;rw[hw1,hin];clear hw1 hin;go_wp2_with fail;go_roundw
     case rel =>
      refine⟨k+1,_,by omega,by go_num,HK.out,HP.out,fun j h1 h2=>?_⟩;rcases Nat.lt_or_ge j k with h | h
      ·exact HNO.out j h h2
      ·rw[show j=k by omega,HTT.out.1]at h2;exact absurd HIB.out h2
     case measure=>simp[intOf];omega
   | false =>
     have HIB:Hid (t ∉ b):=zfn.1 hin;go_wp2_with fail;refine(contains_ints b _ t _ HIN.out (by have:=HBL.out;omega)).mono ?_;rintro e w1 ⟨rfl,hw1⟩;rw[hw1,hin];clear hw1 hin
     go_wp2_with (
      at_builtin
      refine wpList_append_own _ rfl (.tmp 24) (.tmp 26) 24 rfl base 3 i0 (.int .i64 0) 1 8 Tryz.underlying24 HI.out.1 HI.out.2.1 HI.out.2.2.1 HI.out.2.2.2 rfl (by decide) (.slice adk bl capk) bl (zi7 b) rfl (HOWN.out.alloc _) ⟨wr.heap.size,0,none⟩ 1 1 [.int .i64 t] rfl rfl (cell_one_new _ _ _) (by simp[Value.oneCell']) (by unfold maxLen;omega) (by omega) (by simp;omega) ?_;intro v1 w1 hown1 hgr1 hnil1;have hB1:Below base wr w1:=((Below.refl base wr).alloc hbase _).grown hgr1 (by simp;omega) (fun m hm=>(HOWN.out.lt m hm).1);obtain⟨g1,cap1,rfl,hg1,hcap1⟩:=zgi hown1 (by omega);have d1:w1.cell? ⟨p0,0,none⟩=some (.slice adk bl capk):=(hB1.cell (p:=⟨p0,0,none⟩) HK.out.lt.1).trans c0;have z0:w1.frozen? ⟨p0,0,none⟩=false:=(hB1.frozen (p:=⟨p0,0,none⟩) HK.out.lt.1).trans HK.out.thaw;have d3:=(hB1.cell (p:=⟨p3,0,none⟩) HK.out.lt.2.2.2.1).trans HK.out.fn;have HOWN1:Hid (w1.ownsRow base 3 1 (.slice (some ⟨g1,0,none⟩) (bl+1) cap1) (bl+1) (zi7 b++[.int .i64 t])):=hown1;clear hown1 hgr1 hnil1)
     have HP1:Hid (zaO p0 base wr (w1.setCell ⟨p0,0,none⟩ (.slice (some ⟨g1,0,none⟩) (bl+1) cap1))):=(zaO.of_below hB1).set 0 _;have HG1:Hid (zcH (w1.setCell ⟨p0,0,none⟩ (.slice (some ⟨g1,0,none⟩) (bl+1) cap1)) p0 p1 p2 p3 base dv (.func (.func N) #[] #[pa,pb]) (.slice (some ⟨g1,0,none⟩) (bl+1) cap1) (b++[t])) :=HK.out.past HP1.out (World.cell?_setCell_same _ _ _ d1) (by rw[World.frozen?_setCell];exact z0) (by rw[zjR,List.length_append,HBL.out];exact ownsRow_setCell_below HOWN1.out HK.out.lt.1 _);clear d0 d1 z0 d3 HOWN1;refine(IH.out (b++[t]) _ _ (by rw[List.length_append,HBL.out,HLN.out];have:=HF.out;simp;omega) (HBG.out.snoc HTT.out.2.1 HIB.out) HG1.out (HPW.out.trans HP1.out)).mono ?_;rintro e w2 ⟨⟨v2,r2,hor,hG2⟩,hp2⟩;have HP2:Hid (zaO p0 base w w2):=(HP.out.trans HP1.out).trans hp2;rcases hor with⟨hsome,rfl⟩ | ⟨hnone,rfl,rfl⟩
     ·have HQ:Hid (tryO ds p (f+1) b=some r2):=zlR HTT.out.2.2 (by rw[HTT.out.1];exact HIB.out) (by rw[HTT.out.1];exact hsome) HNO.out;clear hsome;go_wp2_with fail;go_ret;exact⟨⟨v2,r2,.inl ⟨HQ.out,rfl⟩,hG2⟩,HP2.out⟩
     ·have HG2:Hid (zcH w2 p0 p1 p2 p3 base dv (.func (.func N) #[] #[pa,pb]) v2 (b++[t])):=hG2;have hown2:=hG2.own;rw[List.length_append,HBL.out]at hown2;obtain⟨g2,cap2,hv2,hg2,hcap2⟩:=zgi hown2 (by simp);subst hv2;have e0:=hG2.order;have y0:=hG2.thaw;simp only[List.length_singleton]at e0 hown2 hcap2;have hlc2:bl<=cap2:=by omega
      have HOWN2:Hid (w2.ownsRow base 3 1 (.slice (some ⟨g2,0,none⟩) bl cap2) bl (zi7 b)):=by have h1:=zjg hown2 (show bl<=bl+1 by omega);rw[zjO,List.take_left' HBL.out]at h1;exact h1
      have HNN:Hid (tryO ds p f (b++[t])=none):=hnone;clear hG2 hown2 hnone hp2;go_wp2_with fail;go_roundw
      case rel =>
       refine⟨k+1,.slice (some ⟨g2,0,none⟩) bl cap2,by omega,by go_num,HG2.out.past ((zaO.refl _ _ _).set 0 _) (World.cell?_setCell_same _ _ _ e0) (by rw[World.frozen?_setCell];exact y0) (by rw[HBL.out];exact ownsRow_setCell_below HOWN2.out HK.out.lt.1 _),HP2.out.set 0 _,fun j h1 h2=>?_⟩;rcases Nat.lt_or_ge j k with h | h
       ·exact HNO.out j h h2
       ·rw[show j=k by omega,HTT.out.1];exact HNN.out
      case measure=>simp[intOf];omega
  ·have hlt':¬(k:Int)<(ln:Int):=by omega
   have HQ:Hid (tryO ds p (f+1) b=none):=zjV fun j h1=>HNO.out j (by rw[HLN.out]at h1;omega);go_wp2_with fail;go_ret;exact⟨⟨vk,b,.inr ⟨HQ.out,rfl,rfl⟩,HK.out⟩,HP.out⟩
theorem znj{ds:List Int}{dv:Value}{N:Nat}{pa pb:Value}{p:List Int->Bool}{p0 p1 p2 p3 base:Nat}{w0:World}(hA:zoe ds dv N pa pb p p0 base w0)(f:Nat):zkD ds dv N pa pb p p0 p1 p2 p3 base w0 f:=by
 induction f with
 | zero=>exact zlY hA
 | succ f ih=>exact zlb hA f ih
end Go.Proofs.YthlhgiihngcobaaGreatDoor
