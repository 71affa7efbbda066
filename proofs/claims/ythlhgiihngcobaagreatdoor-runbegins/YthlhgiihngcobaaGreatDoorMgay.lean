/-
  PROVED HERE: two names, and seven names and seven names, are compared as Go compares them; view.follow goes over names as long as what is told is taken; view.firstOrder, with its closure that calls itself, gives the first order by numbers of which something is; view.look gives of names what each op reads, in a map of its own, and what was written last.
  Conditions: none but those that each theorem's own premises say.
-/
import Derived.Test.YthlhgiihngcobaaGreatDoorMgax
import Derived.BigFrame
import Derived.Deep.Cut
import Derived.Test.YthlhgiihngcobaaGreatDoorMgau
set_option maxHeartbeats 32000000
set_option maxRecDepth 100000
namespace Go.Proofs.YthlhgiihngcobaaGreatDoor
open Go.RowKit Go.Maps
theorem zxO{α β:Type}{F:α->Option β}{G:α->β}:∀ {l:List α},(∀i∈l,F i=some (G i))->l.mapM F=some (l.map G):=by
 intro l
 induction l with
 | nil=>intro _;rfl
 | cons a l ih =>intro h;rw[List.mapM_cons,h a (List.mem_cons_self ..),ih fun i hi=>h i (List.mem_cons_of_mem _ hi)];rfl
theorem zy1(f:Nat->Nm){i:Nat}(hi:i<7):((cells28 f).toList.drop (i*4)).take 4=(nmV (f i)).cells.toList:=by
 refine List.ext_getElem? fun j=>?_;rw[List.getElem?_take];by_cases hj:j<4
 ·rw[if_pos hj,List.getElem?_drop,Array.getElem?_toList,zbQ f _ (by omega),show(i*4+j) / 4=i by omega,show(i*4+j) % 4=j by omega];rcases(show j=0\/j=1\/j=2\/j=3 by omega)with rfl | rfl | rfl | rfl <;> rfl
 ·rw[if_neg hj,List.getElem?_eq_none];simp[nmV,Value.cells];omega
theorem zyx:Tryz.prog.cellsOf 107=28:=by kernel_rfl
theorem zCh:Tryz.prog.keyType 107=true:=by kernel_rfl
theorem zCm:107<Tryz.prog.types.size:=of_decide_eq_true (by kernel_rfl)
theorem zAJ:(match Tryz.prog.underlying 107 with | some (.array _ _) | some (.struct _)=>true | _=>false)=true:=by kernel_rfl
theorem wAt:Tryz.prog.keyTypeAt 4 107=true:=by kernel_rfl
theorem nAt:Tryz.prog.keyTypeAt 3 105=true:=by kernel_rfl
theorem zCl:Keyed Tryz.prog 107:=Keyed.of_law (deep_law_laid zBb (m:=4) (by omega) zCm wAt zAJ)
def zBJ(n:Nm):List Lit:=[.int .i64 n.1.1,.int .i64 n.1.2.1,.int .i64 n.1.2.2,.int .i64 n.2]
theorem zBL(d:Nat)(f:Nat->Nm)(h:∀x,x<7->Small (f x)):Tryz.prog.keyLits (d+4) 107 (cells28 f).toList=some ((List.range 7).map fun i=>zBJ (f i)).flatten:=by
 have hm:(List.range 7).mapM (fun i=>Tryz.prog.keyLits (d+3) 105 (((cells28 f).toList.drop (i*4)).take 4))=some ((List.range 7).map fun i=>zBJ (f i)):=zxO fun i hi=>by rw[zy1 f (List.mem_range.1 hi)];exact zuo d (f i) (h i (List.mem_range.1 hi))
 unfold Program.keyLits;rw[Tryz.underlying107];simp only[zyx,zt7,Array.length_toList,zan,if_true,hm];rfl
theorem zBB(f:Nat->Nm)(h:∀x,x<7->Small (f x)):∃l,keyOf Tryz.prog 107 (.agg (cells28 f))=some l:=by obtain⟨d,hd⟩:∃d,Tryz.prog.types.size+1=d+4:=⟨369-3,by rw[zAM]⟩;obtain⟨L,hL⟩:∃L,Tryz.prog.keyLits (d+4) 107 (cells28 f).toList=some L:=⟨_,zBL d f h⟩;refine⟨.string (keyBytes L),?_⟩;unfold keyOf;rw[Tryz.underlying107,hd];simp only[Value.cells,hL,zCh,Value.formed,Tryz.underlying107];simp[zyx,zan]
theorem zz8(f g:Nat->Nm)(hf:∀x,x<7->Small (f x))(hg:∀x,x<7->Small (g x))(W:World):∃r:Bool,(Op.equal 107 (.agg (cells28 f)) (.agg (cells28 g))).run Tryz.prog W=.ok r W/\(r=true↔∀x,x<7->f x=g x):=by
 obtain⟨l,hl⟩:=zBB f hf;obtain⟨m,hm⟩:=zBB g hg;obtain⟨r,hr,hiff⟩:=run_equal_deep (P:=Tryz.prog) W (m:=4) (by omega) wAt zAJ hl hm;refine⟨r,hr,hiff.trans ⟨fun e x hx=>?_,fun e=>?_⟩⟩
 ·subst e;have h1:=zCl.inj hl hm;injection h1 with h1;exact cells28_inj h1 hx
 ·rw[zjR e,hm]at hl;exact(Option.some.inj hl).symm
theorem zy5(a b:Nm)(ha:Small a)(hb:Small b)(W:World):(Op.equal 105 (nmV a) (nmV b)).run Tryz.prog W=.ok (a == b) W:=by
 obtain⟨r,hr,hiff⟩:=run_equal_deep (P:=Tryz.prog) W (m:=3) (by omega) nAt zBw (zgG a ha) (zgG b hb);have:r=(a == b):=by rw[Bool.eq_iff_iff,hiff,beq_iff_eq];exact⟨fun e=>zyO ha hb e,fun e=>by rw[e]⟩
 rw[<-this];exact hr
theorem zBj:Tryz.prog.eqGuardType Tryz.prog.depth 107=false:=by kernel_rfl
theorem zBc:Tryz.prog.eqGuardType Tryz.prog.depth 105=false:=by kernel_rfl
theorem ze1{P:Program}{ops:Array Oper}{rest:List Oper}{o:Oper}{a:Act}{w:World}{Q:Exit->Act->World->Prop}(hw:Region.wanted o (yielded ops a.tmps)=true)(t u:TypeId)(x y:Operand)(ho:o.op=.binOp .eql t x y u)
  (xs ys:Array Value) (hx:a.eval x=.agg xs) (hy:a.eval y=.agg ys) (hg:P.eqGuardType P.depth t=false) (r:Bool) (hr:(Op.equal t (.agg xs) (.agg ys)).run P w=.ok r w) (h:wpList P ops Q rest (a.put o.dst (.bool r)) w):wpList P ops Q (o::rest) a w:=by
 refine Go.BigFrame.wpList_want hw fun K hK=>?_;unfold Oper.wp execOp;simp only[ho,hx,hy,eqGuard,binOp,Sem.run_bind];simp[hg,hr];exact hK _ _ h
end Go.Proofs.YthlhgiihngcobaaGreatDoor
namespace Go.Proofs.YthlhgiihngcobaaGreatDoor
open Go.RowKit Go.Maps
structure zbE(a B:Nat)(w w':World):Prop where
 os:w'.os=w.os
 tape:w'.tape=w.tape
 output:w'.output=w.output
 size:w.heap.size<=w'.heap.size
 block:∀k,k<B->k≠a->w'.heap[k]? = w.heap[k]?
theorem zbE.refl(a B:Nat)(w:World):zbE a B w w:=⟨rfl,rfl,rfl,Nat.le_refl _,fun _ _ _=>rfl⟩
theorem zbE.trans{a B:Nat}{w w1 w2:World}(h:zbE a B w w1)(k:zbE a B w1 w2):zbE a B w w2 :=⟨k.os.trans h.os,k.tape.trans h.tape,k.output.trans h.output,Nat.le_trans h.size k.size,fun j h1 h2=>(k.block j h1 h2).trans (h.block j h1 h2)⟩
theorem zbE.mono{a B C:Nat}{w w1:World}(h:zbE a B w w1)(hC:C<=B):zbE a C w w1:=⟨h.os,h.tape,h.output,h.size,fun k h1 h2=>h.block k (by omega) h2⟩
theorem zbE.of_below{a B:Nat}{w w1:World}(h:Below B w w1):zbE a B w w1:=⟨h.os,h.tape,h.output,h.size,fun k hk _=>h.block k hk⟩
theorem zbE.grown{a:Nat}{w w1:World}(h:zbE a w.heap.size w w1):w.grownBy w1 (some a):=⟨h.os,h.tape,h.output,h.size,fun k hk hne=>h.block k hk (fun e=>hne (by rw[e]))⟩
theorem zbE.of_grown{a:Nat}{w w1:World}(h:w.grownBy w1 (some a)):zbE a w.heap.size w w1:=⟨h.os,h.tape,h.output,h.size,fun k hk hne=>h.block k hk (fun e=>hne (Option.some.inj e))⟩
theorem zbE.below{a B:Nat}{w w1:World}(h:zbE a B w w1)(hs:w1.heap[a]? = w.heap[a]?):Below B w w1:=⟨h.os,h.tape,h.output,h.size,fun k hk=>by
 by_cases e:k=a
 ·rw[e];exact hs
 ·exact h.block k hk e⟩
def zaC(l:List Op3)(k:Nat):Nat->Nm:=fun x=>zfb l k (x:Int)
theorem znG{l:List Op3}{k:Nat}{x:Int}(h1:(opAt l k).2.1=2)(h2:(opAt l k).2.2=x)(hx:0<=x):zaC l (k+1)=zzd (zaC l k) x.toNat (zaA l k):=by
 funext y
 unfold zaC zzd;by_cases e:y=x.toNat
 ·rw[if_pos e,zu8 h1 (by rw[h2];omega)]
 ·rw[if_neg e,zjn (by rw[h2];omega)]
theorem zjb{l:List Op3}{k:Nat}(h:(opAt l k).2.1≠2):zaC l (k+1)=zaC l k:=by
 funext y
 unfold zaC;rw[zjn fun hh=>h hh.1]
theorem zzB{l:List Op3}{k j:Nat}{x:Int}(h:zmN l x k=some j):j<k:=(ztx h).1
theorem zpA:Small zN:=⟨zcV (by decide) (by decide),zcV (by decide) (by decide),zcV (by decide) (by decide),zcV (by decide) (by decide)⟩
theorem zjJ{l:List Op3}{k:Nat}(hl:l.length<=40)(hop:∀o∈l,isOpB o=true)(hk:k<=l.length)(x:Int):Small (zfb l k x):=by
 cases h:zmN l x k with
 | none=>rw[zrf h];exact zpA
 | some j=>rw[zjk h];exact zdh hl hop (by have:=zzB h;omega)
theorem zkQ{l:List Op3}{k:Nat}(hl:l.length<=40)(hop:∀o∈l,isOpB o=true)(hk:k<=l.length):Small (zeX l k):=by
 unfold zeX;split
 ·exact zjJ hl hop hk _
 ·exact zpA
theorem zd0{w:World}{g k:Nat}{cs:Array Value}(h:k≠g):(w.setRow g cs).heap[k]? = w.heap[k]? := by unfold World.setRow;simp[Array.getElem?_modify,h.symm]
theorem zbE.setRow{a B:Nat}{w w1:World}{cs:Array Value}(h:zbE a B w w1):zbE a B w (w1.setRow B cs):=⟨h.os,h.tape,h.output,by simpa[World.setRow]using h.size,fun k h1 h2=>(zd0 (by omega)).trans (h.block k h1 h2)⟩
theorem ze5{P:Program}{fn:Func}{p q:Tmp}{ty:TypeId}(h:fn.results=#[.cell p ty,.tmp q])(tmps:Array Value)(w:World)(g:Nat)(t:TypeId)(cs:Array Value)(fr:Nat × Nat)(d:TypeDesc)(v:Value)
  (hp:tmps.getD p undef=.pointer (some ⟨g,0,none⟩)) (hq:tmps.getD q undef=v) (hg:w.heap[g]? = some (.cells cs t fr))
  (hu:P.underlying ty=some d) (hd:(match d with | .struct _ | .array _ _=>true | _=>false)=true) (hi:(P.info? ty).map (·.size)=some cs.size) :
  (results fn tmps).run P w=.ok (.tuple #[.agg cs,v]) w:=by
 have hp':tmps[p]?.getD undef=.pointer (some ⟨g,0,none⟩):=by simpa using hp
 have hq':tmps[q]?.getD undef=v:=by simpa using hq
 simp[results,h,hp',hq',asAddr,run_loadVar_row w g t ty cs fr d hg hu hd hi]
theorem zjc(l:List Op3)(nv cap:Value)(N M:Nat)(es:Array MapEntry)(clock:Nat)(w:World)(Inv:Nat->World->Prop)(ok:Nat->Bool)
  (hcall:∀(args:Array Value) (W:World),(callFunc N args).run Tryz.prog W=.ok (.enter N args) W)
  (hN:zbo w nv (zaY l l.length)) (hl:l.length<=40) (hop:∀o∈l,isOpB o=true) (hM:w.heap[M]? = some (.map es clock)) (h0:Inv 0 w)
  (hkeep:∀k W W',Inv k W->W'.heap[M]? = W.heap[M]? -> Inv k W')
  (hstep:∀k,k<l.length->∀W,Inv k W->zbE M w.heap.size w W->Calls Tryz.prog N #[nmV (zaA l k),nmV (zeX l k),cap] W fun e W'=>e=.returned (.bool (ok k))/\Inv (if ok k=true then k+1 else k) W'/\zbE M W.heap.size W W') :
  Calls Tryz.prog 123 #[nv,.func (.func N) #[] #[cap]] w fun e w'=>∃k,k<=l.length/\(∀j,j<k->ok j=true)/\(k<l.length->ok k=false)/\e=.returned (.tuple #[.agg (cells28 (zaC l k)),.bool (decide (k=l.length))])/\Inv k w'/\zbE M w.heap.size w w':=by
 obtain⟨ad,b,off,cp,rfl,hcel⟩:=zoA hN hM (zcy l l.length);have HC:Hid (∀W,zbE M w.heap.size w W->∀k,k<l.length->ad=some ⟨b,off,none⟩/\W.cell? ⟨b,off+k*4,none⟩=some (.int .i64 (zaA l k).1.1)/\W.cell? ⟨b,off+k*4+1,none⟩=some (.int .i64 (zaA l k).1.2.1)/\W.cell? ⟨b,off+k*4+2,none⟩=some (.int .i64 (zaA l k).1.2.2)/\W.cell? ⟨b,off+k*4+3,none⟩=some (.int .i64 (zaA l k).2)):=fun W hW k hk=>by have:=hcel W hW.grown k hk;rw[zrx l _ k hk]at this;exact this
 have hMl:M<w.heap.size:=(Array.getElem?_eq_some_iff.1 hM).1;have HOP:Hid (∀o∈l,isOpB o=true):=hop;have HST:Hid (∀k,k<l.length->∀W,Inv k W->zbE M w.heap.size w W->Calls Tryz.prog N #[nmV (zaA l k),nmV (zeX l k),cap] W fun e W'=>e=.returned (.bool (ok k))/\Inv (if ok k=true then k+1 else k) W'/\zbE M W.heap.size W W'):=hstep;have HKP:Hid (∀k W W',Inv k W->W'.heap[M]? = W.heap[M]? -> Inv k W'):=hkeep;have H0:Hid (Inv 0 w):=h0;clear hcel hN hM hop hstep hkeep h0;go_enter Tryz.func123,Tryz.ntmps123;go_wp2_with fail
 go_loopw [12] (fun v12 wr=>∃k:Nat,k<=l.length/\v12=.int .i64 k/\(∀j,j<k->ok j=true)/\Inv k wr/\zaE wr (w.heap.size+1) (zaC l k)/\zaE wr w.heap.size (fun _=>zN)/\zbE M w.heap.size w wr) (fun v12 _=>l.length-(intOf v12).toNat)
 case atStart =>refine⟨0,Nat.zero_le _,rfl,fun j hj=>absurd hj (by omega),HKP.out 0 w _ H0.out ((((Below.refl _ w).alloc (Nat.le_refl _) _).alloc (by simp) _).block M hMl),?_,(ziZ w _ rfl).alloc _,zbE.of_below (((Below.refl _ w).alloc (Nat.le_refl _) _).alloc (by simp) _)⟩;have h1:=ziZ (w.alloc (.cells (cells28 fun _=>zN) 107)) _ rfl;rw[show(w.alloc (.cells (cells28 fun _=>zN) 107)).heap.size=w.heap.size+1 by simp]at h1;exact h1
 case round =>
  obtain⟨k,hk,rfl,hall,hinv,hla,hze,hsv⟩:=hrel;have HALL:Hid (∀j,j<k->ok j=true):=hall;have HINV:Hid (Inv k wr):=hinv;have HLA:Hid (zaE wr (w.heap.size+1) (zaC l k)):=hla;have HZE:Hid (zaE wr w.heap.size (fun _=>zN)):=hze;have HSV:Hid (zbE M w.heap.size w wr):=hsv;have hsz:=hla.lt;clear hall hinv hla hze hsv;by_cases hlt:k<l.length
  ·have hlt':(k:Int)<(l.length:Int):=by omega
   obtain⟨rfl,c0,c1,c2,c3⟩:=HC.out wr HSV.out k hlt;obtain⟨⟨⟨t,a,x⟩,m⟩,hnm⟩:∃n,zaA l k=n:=⟨_,rfl⟩;have ho:opAt l k=(t,a,x):=congrArg Prod.fst hnm;have hisop:=HOP.out _ (zal hlt);rw[ho]at hisop;have HNM:Hid (zaA l k=((t,a,x),m)):=hnm;have HO:Hid (opAt l k=(t,a,x)):=ho;have HIS:Hid (isOpB (t,a,x)=true):=hisop;rw[hnm]at c0 c1 c2 c3;simp only at c0 c1 c2 c3;clear hnm ho hisop
   go_upto_region 6 with(fail)
   obtain⟨W,hW⟩:∃W,W=(wr.alloc (.cells #[.int .i64 t,.int .i64 a,.int .i64 x,.int .i64 m] 105)).alloc (.cells #[.int .i64 0,.int .i64 0,.int .i64 0,.int .i64 0] 105):=⟨_,rfl⟩;rw[<-hW];obtain⟨P,hP⟩:∃P,P=wr.heap.size:=⟨_,rfl⟩;obtain⟨R,hR⟩:∃R,R=wr.heap.size+1:=⟨_,rfl⟩;rw[<-hR,<-hP];have p0:W.cell? ⟨P,0,none⟩=some (.int .i64 t):=by rw[hW,hP];simp
   have p1:W.cell? ⟨P,1,none⟩=some (.int .i64 a):=by rw[hW,hP];simp
   have p2:W.cell? ⟨P,2,none⟩=some (.int .i64 x):=by rw[hW,hP];simp
   have p3:W.cell? ⟨P,3,none⟩=some (.int .i64 m):=by rw[hW,hP];simp
   have q0:W.cell? ⟨R,0,none⟩=some (.int .i64 0):=by rw[hW,hR];simp
   have q1:W.cell? ⟨R,1,none⟩=some (.int .i64 0):=by rw[hW,hR];simp
   have q2:W.cell? ⟨R,2,none⟩=some (.int .i64 0):=by rw[hW,hR];simp
   have q3:W.cell? ⟨R,3,none⟩=some (.int .i64 0):=by rw[hW,hR];simp
   have z0:W.frozen? ⟨R,0,none⟩=false:=by rw[hW,hR];simp
   have z1:W.frozen? ⟨R,1,none⟩=false:=by rw[hW,hR];simp
   have z2:W.frozen? ⟨R,2,none⟩=false:=by rw[hW,hR];simp
   have z3:W.frozen? ⟨R,3,none⟩=false:=by rw[hW,hR];simp
   have hbw:Below wr.heap.size wr W:=by rw[hW];exact((Below.refl _ wr).alloc (Nat.le_refl _) _).alloc (by simp) _
   have hsR:R<W.heap.size:=by rw[hW,hR];simp
   have HLW:Hid (zaE W (w.heap.size+1) (zaC l k)):=HLA.out.below hbw hsz;have HZW:Hid (zaE W w.heap.size (fun _=>zN)):=HZE.out.below hbw (by omega);have HIW:Hid (Inv k W):=HKP.out k wr W HINV.out (hbw.block M (by omega));have HSW:Hid (zbE M w.heap.size w W):=HSV.out.trans (zbE.of_below (hbw.mono (by omega)));have hPR:P<R:=by omega
   have hPB:w.heap.size+1<P:=by omega
   clear hW hP hR hbw HLA HZE HINV HSV c0 c1 c2 c3 hsz;have hne:¬R=P:=by omega
   have hne':¬P=R:=by omega
   by_cases ha1:a=1
   ·subst ha1;obtain⟨hx1,hx6⟩:=zcJ HIS.out (.inl rfl);simp only at hx1 hx6;have hx7:x<7:=by omega
    have hx0:0<=x:=by omega
    obtain⟨⟨⟨s1,s2,s3⟩,sm⟩,hsrc⟩:∃n,zaC l k x.toNat=n:=⟨_,rfl⟩;obtain⟨d0,d1,d2,d3⟩:=HLW.out.cells (x:=x.toNat) (by omega) hsrc;have HSRC:Hid (zeX l k=((s1,s2,s3),sm)):=by show zeX l k=((s1,s2,s3),sm);rw[<-hsrc];unfold zeX zaC;rw[HO.out,if_pos rfl,show((x.toNat:Nat):Int)=x by omega]
    clear hsrc;go_wp2_with fail;obtain⟨V,hV⟩:∃V,V=(((W.setCell ⟨R,0,none⟩ (.int .i64 s1)).setCell ⟨R,1,none⟩ (.int .i64 s2)).setCell ⟨R,2,none⟩ (.int .i64 s3)).setCell ⟨R,3,none⟩ (.int .i64 sm):=⟨_,rfl⟩;rw[<-hV];have hbV:Below R W V:=by rw[hV];exact((((Below.refl R W).setCell (Nat.le_refl _) _).setCell (Nat.le_refl _) _).setCell (Nat.le_refl _) _).setCell (Nat.le_refl _) _
    have HLV:Hid (zaE V (w.heap.size+1) (zaC l k)):=HLW.out.below hbV (by omega);have HZV:Hid (zaE V w.heap.size (fun _=>zN)):=HZW.out.below hbV (by omega);have HIV:Hid (Inv k V):=HKP.out k W V HIW.out (hbV.block M (by omega));have HSVV:Hid (zbE M w.heap.size w V):=HSW.out.trans (zbE.of_below (hbV.mono (by omega)));have v0:=(hbV.cell (p:=⟨P,0,none⟩) hPR).trans p0;have v1:=(hbV.cell (p:=⟨P,1,none⟩) hPR).trans p1;have v2:=(hbV.cell (p:=⟨P,2,none⟩) hPR).trans p2;have v3:=(hbV.cell (p:=⟨P,3,none⟩) hPR).trans p3;clear hV hbV d0 d1 d2 d3 p0 p1 p2 p3 q0 q1 q2 q3 z0 z1 z2 z3 HLW HZW HIW HSW hsR;have HSTK:Hid (Calls Tryz.prog N #[.agg #[.int .i64 t,.int .i64 1,.int .i64 x,.int .i64 m],.agg #[.int .i64 s1,.int .i64 s2,.int .i64 s3,.int .i64 sm],cap] V fun e W'=>e=.returned (.bool (ok k))/\Inv (if ok k=true then k+1 else k) W'/\zbE M V.heap.size V W'):=by have h1:=HST.out k hlt V HIV.out HSVV.out;rw[HNM.out,HSRC.out]at h1;exact h1
    refine HSTK.out.mono ?_;rintro e w1 ⟨rfl,hin1,hsv1⟩;have HL1:Hid (zaE w1 (w.heap.size+1) (zaC l k)):=HLV.out.same (hsv1.block _ HLV.out.lt (by omega));have HZ1:Hid (zaE w1 w.heap.size (fun _=>zN)):=HZV.out.same (hsv1.block _ HZV.out.lt (by omega));have HS1:Hid (zbE M w.heap.size w w1):=HSVV.out.trans (hsv1.mono HSVV.out.size);have hPV:P<V.heap.size:=World.block_lt_of_cell? V _ v0;have e0:w1.cell? ⟨P,0,none⟩=some (.int .i64 t):=(World.cell?_of_block (a:=⟨P,0,none⟩) (hsv1.block P hPV (by omega))).trans v0;have e1:w1.cell? ⟨P,1,none⟩=some (.int .i64 1):=(World.cell?_of_block (a:=⟨P,1,none⟩) (hsv1.block P hPV (by omega))).trans v1;have e2:w1.cell? ⟨P,2,none⟩=some (.int .i64 x):=(World.cell?_of_block (a:=⟨P,2,none⟩) (hsv1.block P hPV (by omega))).trans v2;have e3:w1.cell? ⟨P,3,none⟩=some (.int .i64 m):=(World.cell?_of_block (a:=⟨P,3,none⟩) (hsv1.block P hPV (by omega))).trans v3;clear v0 v1 v2 v3 hsv1 HSTK HIV HSVV HLV HZV hPV;cases hok:ok k with
    | false =>rw[hok]at hin1;have HI1:Hid (Inv k w1):=hin1;have HOK:Hid (ok k=false):=hok;clear hin1 hok;go_wp2_with (first | refine wpList_load_row rfl 107 (.tmp 6) rfl (w.heap.size+1) rfl 107 (cells28 (zaC l k)) (0,0) _ HL1.out Tryz.underlying107 rfl (zaT _) ?_ | refine wpList_store_row rfl 107 (.tmp 4) (.tmp 30) rfl w.heap.size (cells28 (zaC l k)) rfl rfl 107 (cells28 fun _=>zN) HZ1.out (zaT _) (by rw[zan,zan]) (zbN _) ?_);exact bodyPost_ret (v:=.tuple #[.agg (cells28 (zaC l k)),.bool false]) (ze5 Tryz.results123 _ _ w.heap.size 107 (cells28 (zaC l k)) (0,0) _ _ rfl rfl (setRow_heap _ _ _ _ _ _ HZ1.out) Tryz.underlying107 rfl (zaT _)) rfl ⟨k,by omega,HALL.out,fun _=>HOK.out,by rw[show decide (k=l.length)=false from decide_eq_false (by omega)],HKP.out k w1 _ HI1.out (zd0 (by omega)),HS1.out.setRow⟩
    | true =>
      rw[hok]at hin1;have HI1:Hid (Inv (k+1) w1):=hin1
      have HOK:Hid (∀j,j<k+1->ok j=true):=fun j hj=>by
       rcases Nat.lt_or_ge j k with h | h
       ·exact HALL.out j h
       ·rw[show j=k by omega];exact hok
      clear hin1 hok;have HF:Hid (zaC l (k+1)=zaC l k):=zjb (by rw[HO.out];show(1:Int)≠2;decide);go_wp2_with fail;go_roundw
      case rel=>exact⟨k+1,by omega,by go_num,HOK.out,HI1.out,by rw[HF.out];exact HL1.out,HZ1.out,HS1.out⟩
      case measure=>simp[intOf];omega
   ·have ha1':(a == 1)=false:=by simpa using ha1
    have HSRC:Hid (zeX l k=zN):=by show zeX l k=zN;unfold zeX;rw[HO.out,if_neg ha1]
    clear ha1;have HLV:Hid (zaE W (w.heap.size+1) (zaC l k)):=HLW.out;have HZV:Hid (zaE W w.heap.size (fun _=>zN)):=HZW.out;have HIV:Hid (Inv k W):=HIW.out;have HSVV:Hid (zbE M w.heap.size w W):=HSW.out;clear HLW HZW HIW HSW;go_wp2_with fail;have v0:=p0;have v1:=p1;have v2:=p2;have v3:=p3;clear p0 p1 p2 p3 q0 q1 q2 q3 z0 z1 z2 z3;have HSTK:Hid (Calls Tryz.prog N #[.agg #[.int .i64 t,.int .i64 a,.int .i64 x,.int .i64 m],.agg #[.int .i64 0,.int .i64 0,.int .i64 0,.int .i64 0],cap] W fun e W'=>e=.returned (.bool (ok k))/\Inv (if ok k=true then k+1 else k) W'/\zbE M W.heap.size W W'):=by have h1:=HST.out k hlt W HIV.out HSVV.out;rw[HNM.out,HSRC.out]at h1;exact h1
    refine HSTK.out.mono ?_;rintro e w1 ⟨rfl,hin1,hsv1⟩;have HL1:Hid (zaE w1 (w.heap.size+1) (zaC l k)):=HLV.out.same (hsv1.block _ HLV.out.lt (by omega));have HZ1:Hid (zaE w1 w.heap.size (fun _=>zN)):=HZV.out.same (hsv1.block _ HZV.out.lt (by omega));have HS1:Hid (zbE M w.heap.size w w1):=HSVV.out.trans (hsv1.mono HSVV.out.size);have hPV:P<W.heap.size:=World.block_lt_of_cell? W _ v0;have e0:w1.cell? ⟨P,0,none⟩=some (.int .i64 t):=(World.cell?_of_block (a:=⟨P,0,none⟩) (hsv1.block P hPV (by omega))).trans v0;have e1:w1.cell? ⟨P,1,none⟩=some (.int .i64 a):=(World.cell?_of_block (a:=⟨P,1,none⟩) (hsv1.block P hPV (by omega))).trans v1;have e2:w1.cell? ⟨P,2,none⟩=some (.int .i64 x):=(World.cell?_of_block (a:=⟨P,2,none⟩) (hsv1.block P hPV (by omega))).trans v2;have e3:w1.cell? ⟨P,3,none⟩=some (.int .i64 m):=(World.cell?_of_block (a:=⟨P,3,none⟩) (hsv1.block P hPV (by omega))).trans v3;clear v0 v1 v2 v3 hsv1 HSTK HIV HSVV HLV HZV hPV;cases hok:ok k with
    | false =>rw[hok]at hin1;have HI1:Hid (Inv k w1):=hin1;have HOK:Hid (ok k=false):=hok;clear hin1 hok;go_wp2_with (first | refine wpList_load_row rfl 107 (.tmp 6) rfl (w.heap.size+1) rfl 107 (cells28 (zaC l k)) (0,0) _ HL1.out Tryz.underlying107 rfl (zaT _) ?_ | refine wpList_store_row rfl 107 (.tmp 4) (.tmp 30) rfl w.heap.size (cells28 (zaC l k)) rfl rfl 107 (cells28 fun _=>zN) HZ1.out (zaT _) (by rw[zan,zan]) (zbN _) ?_);exact bodyPost_ret (v:=.tuple #[.agg (cells28 (zaC l k)),.bool false]) (ze5 Tryz.results123 _ _ w.heap.size 107 (cells28 (zaC l k)) (0,0) _ _ rfl rfl (setRow_heap _ _ _ _ _ _ HZ1.out) Tryz.underlying107 rfl (zaT _)) rfl ⟨k,by omega,HALL.out,fun _=>HOK.out,by rw[show decide (k=l.length)=false from decide_eq_false (by omega)],HKP.out k w1 _ HI1.out (zd0 (by omega)),HS1.out.setRow⟩
    | true =>
      rw[hok]at hin1;have HI1:Hid (Inv (k+1) w1):=hin1
      have HOK:Hid (∀j,j<k+1->ok j=true):=fun j hj=>by
       rcases Nat.lt_or_ge j k with h | h
       ·exact HALL.out j h
       ·rw[show j=k by omega];exact hok
      clear hin1 hok;by_cases ha2:a=2
      ·subst ha2;obtain⟨hx1,hx6⟩:=zcJ HIS.out (.inr rfl);simp only at hx1 hx6;have hx7:x<7:=by omega
       have hx0:0<=x:=by omega
       obtain⟨⟨⟨s1,s2,s3⟩,sm⟩,hsrc⟩:∃n,zaC l k x.toNat=n:=⟨_,rfl⟩;obtain⟨d0,d1,d2,d3⟩:=HL1.out.cells (x:=x.toNat) (by omega) hsrc;clear hsrc;have y0:=HL1.out.thaw (x.toNat*4);have y1:=HL1.out.thaw (x.toNat*4+1);have y2:=HL1.out.thaw (x.toNat*4+2);have y3:=HL1.out.thaw (x.toNat*4+3);have HF:Hid (zaC l (k+1)=zzd (zaC l k) x.toNat ((t,2,x),m)):=by show zaC l (k+1)=zzd (zaC l k) x.toNat ((t,2,x),m);rw[<-HNM.out];exact znG (by rw[HO.out]) (by rw[HO.out]) hx0
       have HLN:Hid (zaE ((((w1.setCell ⟨w.heap.size+1,x.toNat*4,none⟩ (.int .i64 t)).setCell ⟨w.heap.size+1,x.toNat*4+1,none⟩ (.int .i64 2)).setCell ⟨w.heap.size+1,x.toNat*4+2,none⟩ (.int .i64 x)).setCell ⟨w.heap.size+1,x.toNat*4+3,none⟩ (.int .i64 m)) (w.heap.size+1) (zaC l (k+1))):=by rw[HF.out];exact HL1.out.set x.toNat ((t,2,x),m)
       have HBN:Hid (Below (w.heap.size+1) w1 ((((w1.setCell ⟨w.heap.size+1,x.toNat*4,none⟩ (.int .i64 t)).setCell ⟨w.heap.size+1,x.toNat*4+1,none⟩ (.int .i64 2)).setCell ⟨w.heap.size+1,x.toNat*4+2,none⟩ (.int .i64 x)).setCell ⟨w.heap.size+1,x.toNat*4+3,none⟩ (.int .i64 m))):=by refine((((Below.refl (w.heap.size+1) w1).setCell ?_ _).setCell ?_ _).setCell ?_ _).setCell ?_ _ <;> exact Nat.le_refl _
       go_wp2_with fail;go_roundw
       case rel=>exact⟨k+1,by omega,by go_num,HOK.out,HKP.out _ w1 _ HI1.out (HBN.out.block M (by omega)),HLN.out,HZ1.out.below HBN.out (by omega),HS1.out.trans (zbE.of_below (HBN.out.mono (by omega)))⟩
       case measure=>simp[intOf];omega
      ·have ha2':(a == 2)=false:=by simpa using ha2
       have HF:Hid (zaC l (k+1)=zaC l k):=zjb (by rw[HO.out];exact ha2);clear ha2;go_wp2_with fail;go_roundw
       case rel=>exact⟨k+1,by omega,by go_num,HOK.out,HI1.out,by rw[HF.out];exact HL1.out,HZ1.out,HS1.out⟩
       case measure=>simp[intOf];omega
  ·have hlt':¬(k:Int)<(l.length:Int):=by omega
   obtain rfl:k=l.length:=by omega
   go_wp2_with (first | refine wpList_load_row rfl 107 (.tmp 6) rfl (w.heap.size+1) rfl 107 (cells28 (zaC l l.length)) (0,0) _ HLA.out Tryz.underlying107 rfl (zaT _) ?_ | refine wpList_store_row rfl 107 (.tmp 4) (.tmp 41) rfl w.heap.size (cells28 (zaC l l.length)) rfl rfl 107 (cells28 fun _=>zN) HZE.out (zaT _) (by rw[zan,zan]) (zbN _) ?_);exact bodyPost_ret (v:=.tuple #[.agg (cells28 (zaC l l.length)),.bool true]) (ze5 Tryz.results123 _ _ w.heap.size 107 (cells28 (zaC l l.length)) (0,0) _ _ rfl rfl (setRow_heap _ _ _ _ _ _ HZE.out) Tryz.underlying107 rfl (zaT _)) rfl ⟨l.length,Nat.le_refl _,HALL.out,fun h=>absurd h (by omega),by simp,HKP.out _ wr _ HINV.out (zd0 (by omega)),HSV.out.setRow⟩
end Go.Proofs.YthlhgiihngcobaaGreatDoor
namespace Go.Proofs.YthlhgiihngcobaaGreatDoor
open Go.RowKit
theorem zux{w:World}{base e g n cap k:Nat}{xs:List Value}(h:w.ownsRow base e 1 (.slice (some ⟨g,0,none⟩) n cap) n xs)(hk:k<=n):w.ownsRow base e 1 (.slice (some ⟨g,0,none⟩) k cap) k (xs.take k):=by
 obtain⟨hl,⟨hv,_⟩ | ⟨g',cap',cur,hv,hb,hg,hn,hm,hs,ht⟩⟩:=h
 ·cases hv
 ·simp only[Value.slice.injEq,Option.some.injEq,Addr.mk.injEq,and_true,true_and]at hv;obtain⟨rfl,rfl⟩:=hv;refine⟨by simp;omega,.inr ⟨g,cap,cur,rfl,hb,hg,by omega,hm,hs,?_⟩⟩;rw[<-ht,List.take_take,Nat.mul_one,Nat.mul_one,Nat.min_eq_left hk]
theorem zli{w:World}{base e n:Nat}{v:Value}{xs:List Value}(h:w.ownsRow base e 1 v n xs)(hn:0<n):∃g cap,v=.slice (some ⟨g,0,none⟩) n cap/\base<=g/\n<=cap:=by
 obtain⟨_,⟨_,h0⟩ | ⟨g,cap,cur,hv,hb,_,hc,_⟩⟩:=h
 ·omega
 ·exact⟨g,cap,hv,hb,hc⟩
theorem zbE.set{a B:Nat}{w w1:World}(h:zbE a B w w1)(o:Nat)(v:Value):zbE a B w (w1.setCell ⟨a,o,none⟩ v) :=⟨h.os,h.tape,h.output,by simpa using h.size,fun k h1 h2=>(Below.heap_setCell w1 ⟨a,o,none⟩ v k h2).trans (h.block k h1 h2)⟩
theorem zbE.cell{a B:Nat}{w w1:World}(h:zbE a B w w1){p:Addr}(hp:p.block<B)(ha:p.block≠a):w1.cell? p=w.cell? p:=World.cell?_of_block (h.block _ hp ha)
theorem zbE.under{a B:Nat}{w w1:World}(h:zbE a B w w1){C:Nat}(hC:C<=B)(ha:C<=a):Below C w w1:=⟨h.os,h.tape,h.output,h.size,fun k hk=>h.block k (by omega) (by omega)⟩
def zr6(r:List Int):List Value:=r.map (Value.int .i64)
theorem ztr(r:List Int)(t:Int):zr6 (r++[t])=zr6 r++[.int .i64 t]:=by simp[zr6]
theorem zsr(r:List Int)(k:Nat):(zr6 r).take k=zr6 (r.take k):=by simp[zr6,List.map_take]
structure zfg(w:World)(p0 p1 p2 p3 base:Nat)(dv sv:Value)(v:Value)(b:List Int):Prop where
 order:w.cell? ⟨p0,0,none⟩=some v
 thaw:w.frozen? ⟨p0,0,none⟩=false
 own:w.ownsRow base 3 1 v b.length (zr6 b)
 deals:w.cell? ⟨p1,0,none⟩=some dv
 so:w.cell? ⟨p2,0,none⟩=some sv
 fn:w.cell? ⟨p3,0,none⟩=some (.func (.func 128) #[] #[.pointer (some ⟨p0,0,none⟩),.pointer (some ⟨p1,0,none⟩),.pointer (some ⟨p2,0,none⟩),.pointer (some ⟨p3,0,none⟩)])
 lt:p0<base/\p1<base/\p2<base/\p3<base/\base<=w.heap.size
 ne:p1≠p0/\p2≠p0/\p3≠p0
theorem zfg.past{w w1:World}{p0 p1 p2 p3 base:Nat}{dv sv v v1:Value}{r r1:List Int}(h:zfg w p0 p1 p2 p3 base dv sv v r)(hp:zbE p0 base w w1)
  (h1:w1.cell? ⟨p0,0,none⟩=some v1) (h2:w1.frozen? ⟨p0,0,none⟩=false) (h3:w1.ownsRow base 3 1 v1 r1.length (zr6 r1)):zfg w1 p0 p1 p2 p3 base dv sv v1 r1 where
 order:=h1
 thaw:=h2
 own:=h3
 deals:=(hp.cell (p:=⟨p1,0,none⟩) h.lt.2.1 h.ne.1).trans h.deals
 so:=(hp.cell (p:=⟨p2,0,none⟩) h.lt.2.2.1 h.ne.2.1).trans h.so
 fn:=(hp.cell (p:=⟨p3,0,none⟩) h.lt.2.2.2.1 h.ne.2.2).trans h.fn
 lt:=⟨h.lt.1,h.lt.2.1,h.lt.2.2.1,h.lt.2.2.2.1,Nat.le_trans h.lt.2.2.2.2 hp.size⟩
 ne:=h.ne
theorem zfg.below{w w1:World}{p0 p1 p2 p3 base:Nat}{dv sv v:Value}{r:List Int}(h:zfg w p0 p1 p2 p3 base dv sv v r)(hb:Below w.heap.size w w1):zfg w1 p0 p1 p2 p3 base dv sv v r :=
 have hl:p0<w.heap.size:=by have:=h.lt;omega
 h.past (zbE.of_below (hb.mono h.lt.2.2.2.2)) ((hb.cell (p:=⟨p0,0,none⟩) hl).trans h.order) ((hb.frozen (p:=⟨p0,0,none⟩) hl).trans h.thaw) (zaG h.own hb (Nat.le_refl _))
structure zAZ(ds:List Int)(dv:Value)(N:Nat)(pa pb:Value)(p:List Int->Bool)(p0 base:Nat)(w0:World):Prop where
 len:ds.length<=6
 deals:∀W,zbE p0 base w0 W->zaf W dv ds
 call:∀(args:Array Value) (W:World),(callFunc N args).run Tryz.prog W=.ok (.enter N args) W
 says:∀W,zbE p0 base w0 W->∀ov b,zaf W ov b->zgW ds b->b.length=ds.length->Calls Tryz.prog N #[ov,pa,pb] W fun e W'=>e=.returned (.bool (p b))/\Below W.heap.size W W'
def zvg(ds:List Int)(dv:Value)(N:Nat)(pa pb:Value)(p:List Int->Bool)(p0 p1 p2 p3 base:Nat)(w0:World)(f:Nat):Prop:=∀(b:List Int) (w:World) (v:Value),b.length+f=ds.length->zgW ds b->zfg w p0 p1 p2 p3 base dv (.func (.func N) #[] #[pa,pb]) v b->zbE p0 base w0 w ->
 Calls Tryz.prog 128 #[.pointer (some ⟨p0,0,none⟩),.pointer (some ⟨p1,0,none⟩),.pointer (some ⟨p2,0,none⟩),.pointer (some ⟨p3,0,none⟩)] w fun e w'=>(∃v' b',((tryO ds p f b=some b'/\e=.returned (.bool true))\/(tryO ds p f b=none/\b'=b/\e=.returned (.bool false)))/\zfg w' p0 p1 p2 p3 base dv (.func (.func N) #[] #[pa,pb]) v' b')/\zbE p0 base w w'
theorem zfR{w:World}{base e n:Nat}{v:Value}{xs:List Value}(h:w.ownsRow base e 1 v n xs):∃ad cap,v=.slice ad n cap:=by
 obtain⟨_,⟨h1,h2⟩ | ⟨g,cap,cur,h1,_⟩⟩:=h
 ·exact⟨none,0,by rw[h1,h2]⟩
 ·exact⟨_,cap,h1⟩
theorem zws{ds:List Int}{dv:Value}{N:Nat}{pa pb:Value}{p:List Int->Bool}{p0 p1 p2 p3 base:Nat}{w0:World}(hA:zAZ ds dv N pa pb p p0 base w0):zvg ds dv N pa pb p p0 p1 p2 p3 base w0 0:=by
 intro b w v hn hB hT hS;have hcall:=hA.call;have HT:Hid (zfg w p0 p1 p2 p3 base dv (.func (.func N) #[] #[pa,pb]) v b):=hT;have HSO:Hid (Calls Tryz.prog N #[v,pa,pb] w fun e W'=>e=.returned (.bool (p b))/\Below w.heap.size w W'):=hA.says w hS v b (zap hT.own rfl) hB (by omega);have hdI:=hA.deals w hS;obtain⟨ad,cap,hv⟩:=zfR hT.own;obtain⟨ad2,b2,off2,cap2,hdv,-⟩:=hdI;subst hv hdv;have c0:=hT.order;have c1:=hT.deals;have c2:=hT.so;have HR:Hid (tryO ds p 0 b=if p b=true then some b else none):=rfl;obtain⟨ln,hln⟩:∃ln,ds.length=ln:=⟨_,rfl⟩;have hbl:b.length=ln:=by omega
 rw[hbl]at c0 HSO HT;rw[hln]at c1 HT;have HLN:Hid (ds.length=ln):=hln;have hbase:=hT.lt.2.2.2.2;obtain⟨q,hq⟩:∃q,p b=q:=⟨_,rfl⟩;rw[hq]at HSO HR;clear hA hT hS hB hn hln hbl hq;go_enter Tryz.func128,Tryz.ntmps128;go_wp2_with fail;refine HSO.out.mono ?_;rintro e w1 ⟨rfl,hb1⟩;have HT1:=HT.out.below hb1;have HS1:zbE p0 base w w1:=zbE.of_below (hb1.mono hbase);cases q with
 | true =>have HQ:Hid (tryO ds p 0 b=some b):=HR.out;go_wp2_with fail;go_ret;exact⟨⟨_,b,.inl ⟨HQ.out,rfl⟩,by rw[HLN.out];exact HT1⟩,HS1⟩
 | false =>have HQ:Hid (tryO ds p 0 b=none):=HR.out;go_wp2_with fail;go_ret;exact⟨⟨_,b,.inr ⟨HQ.out,rfl,rfl⟩,by rw[HLN.out];exact HT1⟩,HS1⟩
theorem zxu{ds:List Int}{dv:Value}{N:Nat}{pa pb:Value}{p:List Int->Bool}{p0 p1 p2 p3 base:Nat}{w0:World}(hA:zAZ ds dv N pa pb p p0 base w0)(f:Nat)(ih:zvg ds dv N pa pb p p0 p1 p2 p3 base w0 f):zvg ds dv N pa pb p p0 p1 p2 p3 base w0 (f+1):=by
 intro b w v hn hB hT hS;have HA:Hid (zAZ ds dv N pa pb p p0 base w0):=hA;have IH:Hid (zvg ds dv N pa pb p p0 p1 p2 p3 base w0 f):=ih;have HBG:Hid (zgW ds b):=hB;have HT:Hid (zfg w p0 p1 p2 p3 base dv (.func (.func N) #[] #[pa,pb]) v b):=hT;have HS:Hid (zbE p0 base w0 w):=hS;have hd6:=hA.len;obtain⟨i0,hi,hz0,hs0,hy0⟩:=info_parts zbK;have HI:Hid (Tryz.prog.info? 3=some i0/\i0.zero=some (.int .i64 0)/\i0.size=1/\i0.bytes=8):=⟨hi,hz0,hs0,hy0⟩;obtain⟨ad,cap,hv⟩:=zfR hT.own;subst hv;have c0:=hT.order;have c1:=hT.deals;obtain⟨ad2,b2,off2,cap2,hdv,-⟩:=hA.deals w hS;rw[hdv]at c1;have HDV:Hid (dv=.slice ad2 ds.length cap2):=hdv;obtain⟨bl,hbl⟩:∃bl,b.length=bl:=⟨_,rfl⟩;have HBL:Hid (b.length=bl):=hbl;rw[hbl]at c0 hn;obtain⟨ln,hln⟩:∃ln,ds.length=ln:=⟨_,rfl⟩;have HLN:Hid (ds.length=ln):=hln;rw[hln]at c1 hn hd6;have hne:((bl:Int) == (ln:Int))=false:=by simp;omega
 have hb5:bl<=5:=by omega
 have hF:bl+f+1=ln:=by omega
 have HF:Hid (bl+f+1=ln):=hF;clear hA ih hB hT hS hi hz0 hs0 hy0 hdv hbl hln hn hF;go_enter Tryz.func128,Tryz.ntmps128;go_wp2_with fail
 go_loopw [17] (fun v17 wr=>∃(k:Nat) (vk:Value),k<=ln/\v17=.int .i64 k/\zfg wr p0 p1 p2 p3 base dv (.func (.func N) #[] #[pa,pb]) vk b/\zbE p0 base w wr/\(∀j,j<k->ds.getD j 0 ∉ b->tryO ds p f (b++[ds.getD j 0])=none)) (fun v17 _=>ln-(intOf v17).toNat)
 case atStart=>exact⟨0,_,Nat.zero_le _,rfl,HT.out,zbE.refl _ _ _,fun j hj=>absurd hj (by omega)⟩
 case round =>
  clear c0 c1;obtain⟨k,vk,hk,rfl,hK,hpast,hno⟩:=hrel;have HK:Hid (zfg wr p0 p1 p2 p3 base dv (.func (.func N) #[] #[pa,pb]) vk b):=hK;have HNO:Hid (∀j,j<k->ds.getD j 0 ∉ b->tryO ds p f (b++[ds.getD j 0])=none):=hno;have HP:Hid (zbE p0 base w wr):=hpast;have HPW:Hid (zbE p0 base w0 wr):=HS.out.trans hpast;clear hK hno hpast;by_cases hlt:k<ln
  ·have hlt':(k:Int)<(ln:Int):=by omega
   obtain⟨ad3,b3,off3,cap3,hdv3,ha3,-,-,hc3⟩:=HA.out.deals wr HPW.out;have hkd:k<ds.length:=by rw[HLN.out];exact hlt
   have d0:=hc3 k hkd;have had:=ha3 (by omega);rw[HDV.out]at hdv3;simp only[Value.slice.injEq]at hdv3;obtain⟨e1,-,-⟩:=hdv3;rw[<-e1]at had;subst had;clear e1 hc3 ha3;obtain⟨t,ht⟩:∃t,ds.getD k 0=t:=⟨_,rfl⟩;rw[ht]at d0;have htm:t∈ds:=by rw[<-ht];exact zv5 hkd
   have HTT:Hid (ds.getD k 0=t/\t∈ds/\k<ds.length):=⟨ht,htm,hkd⟩;clear ht htm hkd;obtain⟨adk,capk,hvk⟩:∃ad cap,vk=.slice ad bl cap:=by obtain⟨a1,a2,a3⟩:=zfR HK.out.own;exact⟨a1,a2,by rw[<-HBL.out];exact a3⟩
   subst hvk;have c0:=HK.out.order;have hbase:=HK.out.lt.2.2.2.2;have hp0:p0<wr.heap.size:=by have:=HK.out.lt.1;omega
   have h30:=HK.out.ne.2.2;have h03:¬p0=p3:=fun e=>h30 e.symm;have HOWN:Hid (wr.ownsRow base 3 1 (.slice adk bl capk) bl (zr6 b)):=by have h1:=HK.out.own;rw[HBL.out]at h1;exact h1
   have HIN:Hid (zaf wr (.slice adk bl capk) b):=zap HOWN.out HBL.out;cases hin:inB b t with
   | true =>
     have HIB:Hid (t∈b):=zaV.1 hin;go_wp2_with fail;refine(contains_ints b _ t _ HIN.out (by have:=HBL.out;omega)).mono ?_;rintro e w1 ⟨rfl,hw1⟩;rw[hw1,hin];clear hw1 hin;go_wp2_with fail;go_roundw
     case rel =>
      refine⟨k+1,_,by omega,by go_num,HK.out,HP.out,fun j h1 h2=>?_⟩;rcases Nat.lt_or_ge j k with h | h
      ·exact HNO.out j h h2
      ·rw[show j=k by omega,HTT.out.1]at h2;exact absurd HIB.out h2
     case measure=>simp[intOf];omega
   | false =>
     have HIB:Hid (t ∉ b):=ziH.1 hin;go_wp2_with fail;refine(contains_ints b _ t _ HIN.out (by have:=HBL.out;omega)).mono ?_;rintro e w1 ⟨rfl,hw1⟩;rw[hw1,hin];clear hw1 hin
     go_wp2_with (
      at_builtin
      refine wpList_append_own _ rfl (.tmp 24) (.tmp 26) 24 rfl base 3 i0 (.int .i64 0) 1 8 Tryz.underlying24 HI.out.1 HI.out.2.1 HI.out.2.2.1 HI.out.2.2.2 rfl (by decide) (.slice adk bl capk) bl (zr6 b) rfl (HOWN.out.alloc _) ⟨wr.heap.size,0,none⟩ 1 1 [.int .i64 t] rfl rfl (cell_one_new _ _ _) (by simp[Value.oneCell']) (by unfold maxLen;omega) (by omega) (by simp;omega) ?_;intro v1 w1 hown1 hgr1 hnil1;have hB1:Below base wr w1:=((Below.refl base wr).alloc hbase _).grown hgr1 (by simp;omega) (fun m hm=>(HOWN.out.lt m hm).1);obtain⟨g1,cap1,rfl,hg1,hcap1⟩:=zli hown1 (by omega);have d1:w1.cell? ⟨p0,0,none⟩=some (.slice adk bl capk):=(hB1.cell (p:=⟨p0,0,none⟩) HK.out.lt.1).trans c0;have z0:w1.frozen? ⟨p0,0,none⟩=false:=(hB1.frozen (p:=⟨p0,0,none⟩) HK.out.lt.1).trans HK.out.thaw;have d3:=(hB1.cell (p:=⟨p3,0,none⟩) HK.out.lt.2.2.2.1).trans HK.out.fn;have HOWN1:Hid (w1.ownsRow base 3 1 (.slice (some ⟨g1,0,none⟩) (bl+1) cap1) (bl+1) (zr6 b++[.int .i64 t])):=hown1;clear hown1 hgr1 hnil1)
     have HP1:Hid (zbE p0 base wr (w1.setCell ⟨p0,0,none⟩ (.slice (some ⟨g1,0,none⟩) (bl+1) cap1))):=(zbE.of_below hB1).set 0 _;have HG1:Hid (zfg (w1.setCell ⟨p0,0,none⟩ (.slice (some ⟨g1,0,none⟩) (bl+1) cap1)) p0 p1 p2 p3 base dv (.func (.func N) #[] #[pa,pb]) (.slice (some ⟨g1,0,none⟩) (bl+1) cap1) (b++[t])) :=HK.out.past HP1.out (World.cell?_setCell_same _ _ _ d1) (by rw[World.frozen?_setCell];exact z0) (by rw[ztr,List.length_append,HBL.out];exact ownsRow_setCell_below HOWN1.out HK.out.lt.1 _);clear d0 d1 z0 d3 HOWN1;refine(IH.out (b++[t]) _ _ (by rw[List.length_append,HBL.out,HLN.out];have:=HF.out;simp;omega) (HBG.out.snoc HTT.out.2.1 HIB.out) HG1.out (HPW.out.trans HP1.out)).mono ?_;rintro e w2 ⟨⟨v2,r2,hor,hG2⟩,hp2⟩;have HP2:Hid (zbE p0 base w w2):=(HP.out.trans HP1.out).trans hp2;rcases hor with⟨hsome,rfl⟩ | ⟨hnone,rfl,rfl⟩
     ·have HQ:Hid (tryO ds p (f+1) b=some r2):=zxS HTT.out.2.2 (by rw[HTT.out.1];exact HIB.out) (by rw[HTT.out.1];exact hsome) HNO.out;clear hsome;go_wp2_with fail;go_ret;exact⟨⟨v2,r2,.inl ⟨HQ.out,rfl⟩,hG2⟩,HP2.out⟩
     ·have HG2:Hid (zfg w2 p0 p1 p2 p3 base dv (.func (.func N) #[] #[pa,pb]) v2 (b++[t])):=hG2;have hown2:=hG2.own;rw[List.length_append,HBL.out]at hown2;obtain⟨g2,cap2,hv2,hg2,hcap2⟩:=zli hown2 (by simp);subst hv2;have e0:=hG2.order;have y0:=hG2.thaw;simp only[List.length_singleton]at e0 hown2 hcap2;have hlc2:bl<=cap2:=by omega
      have HOWN2:Hid (w2.ownsRow base 3 1 (.slice (some ⟨g2,0,none⟩) bl cap2) bl (zr6 b)):=by have h1:=zux hown2 (show bl<=bl+1 by omega);rw[zsr,List.take_left' HBL.out]at h1;exact h1
      have HNN:Hid (tryO ds p f (b++[t])=none):=hnone;clear hG2 hown2 hnone hp2;go_wp2_with fail;go_roundw
      case rel =>
       refine⟨k+1,.slice (some ⟨g2,0,none⟩) bl cap2,by omega,by go_num,HG2.out.past ((zbE.refl _ _ _).set 0 _) (World.cell?_setCell_same _ _ _ e0) (by rw[World.frozen?_setCell];exact y0) (by rw[HBL.out];exact ownsRow_setCell_below HOWN2.out HK.out.lt.1 _),HP2.out.set 0 _,fun j h1 h2=>?_⟩;rcases Nat.lt_or_ge j k with h | h
       ·exact HNO.out j h h2
       ·rw[show j=k by omega,HTT.out.1];exact HNN.out
      case measure=>simp[intOf];omega
  ·have hlt':¬(k:Int)<(ln:Int):=by omega
   have HQ:Hid (tryO ds p (f+1) b=none):=ztd fun j h1=>HNO.out j (by rw[HLN.out]at h1;omega);go_wp2_with fail;go_ret;exact⟨⟨vk,b,.inr ⟨HQ.out,rfl,rfl⟩,HK.out⟩,HP.out⟩
theorem zzF{ds:List Int}{dv:Value}{N:Nat}{pa pb:Value}{p:List Int->Bool}{p0 p1 p2 p3 base:Nat}{w0:World}(hA:zAZ ds dv N pa pb p p0 base w0)(f:Nat):zvg ds dv N pa pb p p0 p1 p2 p3 base w0 f:=by
 induction f with
 | zero=>exact zws hA
 | succ f ih=>exact zxu hA f ih
end Go.Proofs.YthlhgiihngcobaaGreatDoor
namespace Go.Proofs.YthlhgiihngcobaaGreatDoor
open Go.RowKit Go.Maps
def nmD(n:Nm):DataW Unit:=.agg [.lit (.int .i64 n.1.1),.lit (.int .i64 n.1.2.1),.lit (.int .i64 n.1.2.2),.lit (.int .i64 n.2)]
def zcT(v:Value):Option (DataW Unit × List MemPlace) :=
 match v with
 | .agg a =>
   match a.toList with
   | [.int .i64 p,.int .i64 q,.int .i64 r,.int .i64 s]=>some (.agg [.lit (.int .i64 p),.lit (.int .i64 q),.lit (.int .i64 r),.lit (.int .i64 s)],[])
   | _=>none
 | _=>none
theorem zuH(n:Nm):zcT (nmV n)=some (nmD n,[]):=rfl
theorem zqb{v:Value}{n:Nm}{ps:List MemPlace}(h:zcT v=some (nmD n,ps)):v=nmV n:=by
 unfold zcT at h;split at h
 ·rename_i a;split at h
  ·rename_i p q r s hl;simp only[Option.some.injEq,Prod.mk.injEq,nmD,DataW.agg.injEq,List.cons.injEq,DataW.lit.injEq,Lit.int.injEq,true_and,and_true]at h;obtain⟨⟨rfl,rfl,rfl,rfl⟩,_⟩:=h;unfold nmV;rw[<-Array.toArray_toList (xs:=a),hl]
  ·cases h
 ·cases h
def zsO(D:DataW Unit)(l:List Op3)(k:Nat):Prop :=∀n:Nm,Small n->(∀i,i<k->zaA l i=n->Maps.has D (nmL n)=true/\D.atKey (nmL n) (nmD zN)=nmD (zeX l i))/\((∀i,i<k->zaA l i≠n)->Maps.has D (nmL n)=false)
theorem znM(l:List Op3):zsO (.map []) l 0:=fun n _=>⟨fun i hi=>absurd hi (by omega),fun _=>rfl⟩
theorem zqZ{D:DataW Unit}{l:List Op3}{k:Nat}(hm:IsMap D)(hk:k<l.length)(hs:Small (zaA l k))(h:zsO D l k):zsO (D.put (nmL (zaA l k)) (nmD (zeX l k))) l (k+1):=by
 intro n hn;by_cases he:zaA l k=n
 ·subst he;refine⟨fun i hi hin=>⟨has_put_same hm (zAC.key (zgG _ hn)) _,?_⟩,fun hno=>absurd rfl (hno k (by omega))⟩;rw[atKey_put_same hm (zAC.key (zgG _ hn)),zj0 (by omega) hk hin]
 ·have hne:nmL n≠nmL (zaA l k):=fun hh=>he (zyO hs hn hh.symm);rw[has_put_other hne,atKey_put_other hne];obtain⟨h1,h2⟩:=h n hn;refine⟨fun i hi hin=>h1 i ?_ hin,fun hno=>h2 fun i hi=>hno i (by omega)⟩;rcases Nat.lt_or_ge i k with h3 | h3
  ·exact h3
  ·exact absurd (show zaA l k=n by rw[show k=i by omega];exact hin) he
theorem zrj{D:DataW Unit}{l:List Op3}{k:Nat}(ht:Tidy D)(hk:k<l.length)(hs:Small (zaA l k))(h:zsO D l k)(hz:Maps.size D=k)(d:DataW Unit):Maps.size (D.put (nmL (zaA l k)) d)=k+1:=by rw[size_put ht,(h _ hs).2 fun i hi he=>absurd (zj0 (by omega) hk he) (by omega),hz];simp
theorem zzA(n:Int)(W:World):(Instr.makeMap 101 (some (.int .i64 n))).run Tryz.prog W=.ok (.map (some W.heap.size)) (W.alloc (.map #[] 0)):=by simp[Instr.makeMap,run_underlying Tryz.underlying101,asInt];rfl
structure zb2(w:World)(M:Nat)(l:List Op3)(k:Nat)(D:DataW Unit):Prop where
 own:w.ownsMap Tryz.prog 105 zcT M k D
 froms:zsO D l k
 size:Maps.size D=k
theorem zb2.same{w w':World}{M k:Nat}{l:List Op3}{D:DataW Unit}(h:zb2 w M l k D)(hb:w'.heap[M]? = w.heap[M]?):zb2 w' M l k D where
 own:=by obtain⟨es,clock,h1,h2⟩:=h.own;exact⟨es,clock,hb.trans h1,h2⟩
 froms:=h.froms
 size:=h.size
theorem zt8(l:List Op3)(k M c:Nat)(D:DataW Unit)(W:World)(hl:l.length<=40)(hop:∀o∈l,isOpB o=true)(hk:k<l.length)(hL:zb2 W M l k D)(hc:W.cell? ⟨c,0,none⟩=some (.map (some M))):Calls Tryz.prog 124 #[nmV (zaA l k),nmV (zeX l k),.pointer (some ⟨c,0,none⟩)] W fun e W'=>e=.returned (.bool true)/\(∃D',zb2 W' M l (k+1) D')/\zbE M W.heap.size W W':=by have HK:Hid (keyOf Tryz.prog 105 (nmV (zaA l k))=some (nmL (zaA l k))):=zgG _ (zdh hl hop hk);have HN:Hid (∀W' ,W'.ownsMap Tryz.prog 105 zcT M (k+1) (D.put (nmL (zaA l k)) (nmD (zeX l k)))->zb2 W' M l (k+1) (D.put (nmL (zaA l k)) (nmD (zeX l k)))):=fun W' h=>⟨h,zqZ hL.own.isMap hk (zdh hl hop hk) hL.froms,zrj (hL.own.tidy zAC) hk (zdh hl hop hk) hL.froms hL.size _⟩;have HOWN:Hid (W.ownsMap Tryz.prog 105 zcT M k D):=hL.own;have hMl:=hL.own.lt;have hcl:=World.block_lt_of_cell? W _ hc;simp only at hcl;clear hop hL;obtain⟨⟨⟨t,a,x⟩,m⟩,hnm⟩:∃n,zaA l k=n:=⟨_,rfl⟩;obtain⟨⟨⟨s1,s2,s3⟩,sm⟩,hsr⟩:∃n,zeX l k=n:=⟨_,rfl⟩;rw[hnm]at HK;rw[hnm,hsr]at HN ⊢;clear hnm hsr;unfold nmV at HK ⊢;simp only at HK ⊢;go_enter Tryz.func124,Tryz.ntmps124;go_wp2_with (at_mapUpdate;refine wpList_mapUpdate_own (H:=Unit) _ rfl (.tmp 6) (.tmp 7) (.tmp 8) 101 rfl 105 105 zAC Tryz.underlying101 zcT M k D rfl ((HOWN.out.alloc _).alloc _) (by unfold maxLen;omega) (.agg #[.int .i64 t,.int .i64 a,.int .i64 x,.int .i64 m]) (.agg #[.int .i64 s1,.int .i64 s2,.int .i64 s3,.int .i64 sm]) (nmL ((t,a,x),m)) rfl rfl HK.out (nmD ((s1,s2,s3),sm)) [] rfl ?_;intro w2 hown2 hgr2);go_ret;exact⟨rfl,⟨_,HN.out _ hown2⟩,zbE.of_grown (((World.grownBy_alloc _ _ _).trans (World.grownBy_alloc _ _ _)).trans hgr2)⟩
theorem zqw(args:Array Value)(W:World):(callFunc 124 args).run Tryz.prog W=.ok (.enter 124 args) W:=by
 kernel_rfl
theorem zlY{P:Program}{ops:Array Oper}{rest:List Oper}{o:Oper}{a:Act}{w:World}{Q:Exit->Act->World->Prop}(hg:o.guard=none)(t:TypeId)(p q:Operand)(ho:o.op=.build t #[(0,p),(1,q)])(v u:Value)(hp:a.eval p=v)(hq:a.eval q=u)(cells:Array Value)
  (hc:P.built t [(0,v),(1,u)]=some cells) (h:wpList P ops Q rest (a.put o.dst (.agg cells)) w):wpList P ops Q (o::rest) a w:=by
 have hc':P.built t ((#[(0,p),(1,q)]:Array (Nat × Operand)).map fun(i,x)=>(i,a.eval x)).toList=some cells:=by simpa[hp,hq]using hc
 exact wpList_build hg t _ ho (by rw[hc'];rfl) (by rw[hc'];exact h)
def zc1:Array Value:=(Value.map none::(cells28 fun _=>zN).toList).toArray
theorem zhp:zc1.size=29:=by simp[zc1,zan]
structure zys(w W:World):Prop where
 out:W.heap[w.heap.size]? = some (.cells zc1 109 (0,0))
 map:W.heap[w.heap.size+1]? = some (.map #[] 0)
 own:W.ownsMap Tryz.prog 105 zcT (w.heap.size+1) 0 (.map [])
 cell:W.cell? ⟨w.heap.size+1+1,0,none⟩=some (.map (some (w.heap.size+1)))
 below:Below w.heap.size w W
theorem look_split{F:FuncId}{args:Array Value}{Q:Ending->World->Prop}(w:World)(Z:Array Value)(hZ:zc1=Z)(h:∀W,zys w W->Calls Tryz.prog F args W Q):Calls Tryz.prog F args (((w.alloc (.cells Z 109)).alloc (.map #[] 0)).alloc (.cells #[.map (some (w.heap.size+1))] 101)) Q:=by
 subst hZ;have h1:(w.alloc (.cells zc1 109)).heap.size=w.heap.size+1:=by simp
 have hm:=World.ownsMap_made (w.alloc (.cells zc1 109)) Tryz.prog 105 zcT;rw[h1]at hm;refine h _ ⟨?_,?_,hm.alloc _,?_,(((Below.refl _ w).alloc (Nat.le_refl _) _).alloc (by simp) _).alloc (by simp;omega) _⟩
 ·rw[heap_alloc_old _ _ (by simp;omega),heap_alloc_old _ _ (by simp),heap_alloc_new]
 ·rw[heap_alloc_old _ _ (by simp)];have h2:=heap_alloc_new (w.alloc (.cells zc1 109)) (.map #[] 0);rw[h1]at h2;exact h2
 ·rw[World.cell?_alloc_at _ _ _ _ (by simp)];rfl
theorem zgr{c:Code}{Q:Exit->Act->World->Prop}{a:Act}(w:World)(Z:Array Value)(f:Nat->Nm)(hZ:cells28 (fun _=>zN)=Z)(h:∀W,zaE W w.heap.size f->Below w.heap.size w W->Code.wp Tryz.prog c Q a W):Code.wp Tryz.prog c Q a ((w.alloc (.cells Z 107)).setRow w.heap.size (cells28 f)):=by subst hZ;exact h _ (setRow_heap _ _ _ _ _ _ (zhk w _)) (below_setRow ((Below.refl _ w).alloc (Nat.le_refl _) _) (Nat.le_refl _) _)
theorem look_any(l:List Op3)(nv:Value)(w:World)(hN:zbo w nv (zaY l l.length))(hl:l.length<=40)(hop:∀o∈l,isOpB o=true):Calls Tryz.prog 54 #[nv] w fun e w'=>∃M D,e=.returned (.agg (cells29 M (zaC l l.length)))/\w.heap.size<=M/\zb2 w' M l l.length D/\Below w.heap.size w w':=by
 have HN:Hid (∀W,Below w.heap.size w W->zbo W nv (zaY l l.length)):=fun W hW=>by
  obtain⟨ad,b,off,cap,hv,ha,hb,hat⟩:=hN;refine⟨ad,b,off,cap,hv,ha,?_,hat.below hW hb⟩;rcases hb with h | h
  ·exact .inl (Nat.lt_of_lt_of_le h hW.size)
  ·exact .inr h
 have HOP:Hid (∀o∈l,isOpB o=true):=hop;have hmm:=zzA;obtain⟨ad,b,off,cap,hv,-,-,-⟩:=hN;rw[zcy]at hv;subst hv;clear hop;go_enter Tryz.func54,Tryz.ntmps54;go_wp2_with fail;refine look_split w _ rfl ?_;intro W0 hB0;have HB0:Hid (zys w W0):=hB0;clear hB0;refine(zjc l _ _ 124 (w.heap.size+1) #[] 0 W0 (fun k W=>∃D,zb2 W (w.heap.size+1) l k D) (fun _=>true) zqw (HN.out _ HB0.out.below) hl HOP.out HB0.out.map ⟨_,HB0.out.own,znM l,rfl⟩ ?_ ?_).mono ?_
 ·rintro k W W' ⟨D,h⟩ hb;exact⟨D,h.same hb⟩
 ·rintro k hk W ⟨D,h⟩ hsv;have hcl:=World.block_lt_of_cell? W0 _ HB0.out.cell;refine(zt8 l k (w.heap.size+1) (w.heap.size+1+1) D W hl HOP.out hk h ((World.cell?_of_block (a:=⟨w.heap.size+1+1,0,none⟩) (hsv.block _ hcl (by simp))).trans HB0.out.cell)).mono ?_;rintro e W' ⟨he,h1,h2⟩;exact⟨he,by simpa using h1,h2⟩
 rintro e w1 ⟨k,hk,-,hno,rfl,⟨D,hD⟩,hsv⟩
 obtain rfl:k=l.length:=by
  rcases Nat.lt_or_ge k l.length with h | h
  ·exact absurd (hno h) (by simp)
  ·omega
 have hcl:=World.block_lt_of_cell? W0 _ HB0.out.cell;simp only at hcl;have HO1:Hid (w1.heap[w.heap.size]? = some (.cells zc1 109 (0,0))):=(hsv.block _ (by omega) (by omega)).trans HB0.out.out;have HC1:w1.cell? ⟨w.heap.size+1+1,0,none⟩=some (.map (some (w.heap.size+1))):=(World.cell?_of_block (a:=⟨w.heap.size+1+1,0,none⟩) (hsv.block _ hcl (by simp))).trans HB0.out.cell;have HD:Hid (zb2 w1 (w.heap.size+1) l l.length D):=hD;have HB1:Hid (Below w.heap.size w w1):=HB0.out.below.trans ⟨hsv.os,hsv.tape,hsv.output,hsv.size,fun k h1=>hsv.block k (by omega) (by omega)⟩;have hs1:=HB1.out.size;have hl2:w.heap.size+1+1<w1.heap.size:=World.block_lt_of_cell? w1 _ HC1;have HF1:Hid (zaE (w1.alloc (.cells (cells28 fun _=>zN) 107)) w1.heap.size (fun _=>zN)):=zhk _ _;clear hno hsv hcl hD hk HB0
 go_upto_region 3 with(first | refine wpList_store_row rfl 107 (.tmp 4) (.tmp 13) rfl w1.heap.size (cells28 (zaC l l.length)) rfl rfl 107 (cells28 fun _=>zN) HF1.out (zaT _) (by rw[zan,zan]) (zbN _) ?_ | fail)
 refine zgr w1 _ _ rfl ?_;intro W hLW hBW;have HLW:Hid (zaE W w1.heap.size (zaC l l.length)):=hLW;have HOW:Hid (W.heap[w.heap.size]? = some (.cells zc1 109 (0,0))):=(hBW.block _ (by omega)).trans HO1.out;have HCW:W.cell? ⟨w.heap.size+1+1,0,none⟩=some (.map (some (w.heap.size+1))):=(hBW.cell (p:=⟨w.heap.size+1+1,0,none⟩) hl2).trans HC1;have HDW:Hid (zb2 W (w.heap.size+1) l l.length D):=HD.out.same (hBW.block _ (by omega));have HBW:Hid (Below w.heap.size w W):=HB1.out.trans (hBW.mono hs1);clear hLW hBW HC1 HO1 HD HB1 HF1;go_wp2_with (first | refine wpList_load_row rfl 107 (.tmp 4) rfl w1.heap.size rfl 107 (cells28 (zaC l l.length)) (0,0) _ HLW.out Tryz.underlying107 rfl (zaT _) ?_ | refine zlY rfl 109 (.tmp 15) (.tmp 16) rfl (.map (some (w.heap.size+1))) (.agg (cells28 (zaC l l.length))) rfl rfl (cells29 (w.heap.size+1) (zaC l l.length)) (zou _ _) ?_ | refine wpList_store_row rfl 109 (.tmp 2) (.tmp 17) rfl w.heap.size (cells29 (w.heap.size+1) (zaC l l.length)) rfl rfl 109 zc1 HOW.out (zdA _ _) (by rw[zdS,zhp]) (zhI _ _) ?_);exact bodyPost_ret (v:=.agg (cells29 (w.heap.size+1) (zaC l l.length))) (results_cell_row Tryz.results54 _ _ w.heap.size 109 (cells29 (w.heap.size+1) (zaC l l.length)) (0,0) _ rfl (setRow_heap _ _ _ _ _ _ HOW.out) Tryz.underlying109 rfl (zdA _ _)) rfl ⟨w.heap.size+1,D,rfl,by omega,HDW.out.same (zd0 (by omega)),below_setRow HBW.out (Nat.le_refl _) _⟩
end Go.Proofs.YthlhgiihngcobaaGreatDoor
