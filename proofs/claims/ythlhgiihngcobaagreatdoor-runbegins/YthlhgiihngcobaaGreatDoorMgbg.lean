/-
  PROVED HERE: nothing yet of package play; play.Values and play.Seen answer what a right list comes to (valsL, seenTo of what is done), and; how a table of locks (two lists in rows of its own) lies in memory, and what of it stands when only some; a map from whole numbers to whatever it holds, as package strict keeps three of them, said key by key.
  Conditions: none but those that each theorem's own premises say.
-/
import Derived.Test.YthlhgiihngcobaaGreatDoorMgaq
import Derived.Test.YthlhgiihngcobaaGreatDoorMgag
import Derived.Test.YthlhgiihngcobaaGreatDoorMgah
import Derived.Test.YthlhgiihngcobaaGreatDoorMgbf
import Derived.Test.YthlhgiihngcobaaGreatDoorMgau
import Derived.Laws.CopyOwn
import Derived.Test.YthlhgiihngcobaaGreatDoorMgam
import Derived.Test.YthlhgiihngcobaaGreatDoorMgaf
import Derived.Test.YthlhgiihngcobaaGreatDoorMgaj
import Derived.OwnWalk
import Derived.Laws.Rows
import Derived.Test.YthlhgiihngcobaaGreatDoorMgan
import Derived.Maps.OwnSet
import Derived.Maps.RangeWalk
set_option maxHeartbeats 32000000
set_option maxRecDepth 100000
namespace Go.Proofs.YthlhgiihngcobaaGreatDoor
open Go.RowKit
def zwF:Prop:=∀(l:List Op3) (v:Value) (w:World),zai w v l->(chk l).2=0 ->
 Calls Tryz.prog 28 #[v] w fun e w'=>∃v',e=.returned (.tuple #[v',.nilIface])/\zaf w' v' (valsL (doneL l))/\Below w.heap.size w w'
theorem zw2(d:List Op3):(valsL d).length<=140737488351:=by unfold valsL;simp
end Go.Proofs.YthlhgiihngcobaaGreatDoor
namespace Go.Proofs.YthlhgiihngcobaaGreatDoor
open Go.RowKit
def zkl:Array Value:=cells22 (fun _=>0) (fun _=>0) (fun _=>0) (.slice none 0 0)
theorem zuS(F C S:Nat->Int)(ad:Option Addr)(n c k:Nat):(zda F C S (.slice ad n c) k).oneCell'=true:=by
 unfold zda;split
 ·rfl
 ·split
  ·rfl
  ·split <;> rfl
theorem ziB(F C S:Nat->Int)(ad:Option Addr)(n c:Nat):(cells22 F C S (.slice ad n c)).all (·.oneCell')=true:=by rw[Array.all_eq_true_iff_forall_mem];intro v hv;simp only[cells22,List.mem_toArray,List.mem_map]at hv;obtain⟨k,_,rfl⟩:=hv;exact zuS _ _ _ _ _ _ _
theorem zj1{P:Program}{fn:Func}{p q:Tmp}{ty:TypeId}(h:fn.results=#[.cell p ty,.tmp q])(tmps:Array Value)(w:World)(g:Nat)(t:TypeId)(cs:Array Value)(fr:Nat × Nat)(d:TypeDesc)(v:Value)
  (hp:tmps.getD p undef=.pointer (some ⟨g,0,none⟩)) (hq:tmps.getD q undef=v) (hg:w.heap[g]? = some (.cells cs t fr))
  (hu:P.underlying ty=some d) (hd:(match d with | .struct _ | .array _ _=>true | _=>false)=true) (hi:(P.info? ty).map (·.size)=some cs.size) :
  (results fn tmps).run P w=.ok (.tuple #[.agg cs,v]) w:=by
 have hp':tmps[p]?.getD undef=.pointer (some ⟨g,0,none⟩):=by simpa using hp
 have hq':tmps[q]?.getD undef=v:=by simpa using hq
 simp[results,h,hp',hq',asAddr,run_loadVar_row w g t ty cs fr d hg hu hd hi]
theorem zno{c:Code}{Q:Exit->Act->World->Prop}{a:Act}(w:World)(Z:Array Value)(F C S:Nat->Int)(sv:Value)(hZ:zkl=Z)(h:∀W,zam W w.heap.size F C S sv->Below w.heap.size w W->Code.wp Tryz.prog c Q a W):Code.wp Tryz.prog c Q a ((w.alloc (.cells Z 138)).setRow w.heap.size (cells22 F C S sv)):=by subst hZ;exact h _ (setRow_heap _ _ _ _ _ _ (zf6 w _ _ _ _)) (below_setRow ((Below.refl _ w).alloc (Nat.le_refl _) _) (Nat.le_refl _) _)
theorem zero_split{F:FuncId}{args:Array Value}{Q:Ending->World->Prop}(w:World)(Z:Array Value)(hZ:zkl=Z)(h:∀W,zam W w.heap.size (fun _=>0) (fun _=>0) (fun _=>0) (.slice none 0 0)->Below w.heap.size w W->Calls Tryz.prog F args W Q):Calls Tryz.prog F args (w.alloc (.cells Z 138)) Q:=by subst hZ;exact h _ (zf6 w _ _ _ _) ((Below.refl _ w).alloc (Nat.le_refl _) _)
theorem zq5{w:World}{base e size n g0:Nat}{v:Value}{xs:List Value}(h:w.ownsRow base e size v n xs)(hg:g0<base)(cs:Array Value):(w.setRow g0 cs).ownsRow base e size v n xs:=by
 obtain⟨hl,hd | ⟨g,cap,cur,hv,hbg,hgc,hn,hm,hsz,htk⟩⟩:=h
 ·exact⟨hl,.inl hd⟩
 ·refine⟨hl,.inr ⟨g,cap,cur,hv,hbg,?_,hn,hm,hsz,htk⟩⟩;rw[<-hgc];unfold World.setRow;simp[Array.getElem?_modify,show ¬g0=g by omega]
theorem zlq(w:World)(d:List Op3):zfu (w.alloc (.cells zkl 138)) w.heap.size d 0:=by
 refine⟨.slice none 0 0,?_,World.ownsRow_nil _ _ _ _⟩;have h:=zf6 w (fun _=>0) (fun _=>0) (fun _=>0) (.slice none 0 0);have e1:itB d 0=fun _=>0:=rfl;have e2:cntB d 0=fun _=>0:=by funext j;simp[cntB,ofL]
 have e3:zf8 d 0=fun _=>0:=rfl;rw[e1,e2,e3];exact h
theorem zfu.alloc{w:World}{B k:Nat}{d:List Op3}(h:zfu w B d k)(o:Obj):zfu (w.alloc o) B d k:=by obtain⟨sv,h1,h2⟩:=h;exact⟨sv,h1.below ((Below.refl _ w).alloc (Nat.le_refl _) o) h1.lt,h2.alloc _⟩
theorem ztt(l:List Op3)(v:Value)(w:World)(hI:zai w v l)(hc:(chk l).2=0):Calls Tryz.prog 78 #[v] w fun e w'=>∃ad n c,e=.returned (.tuple #[.agg (cells22 (itB (doneL l) (doneL l).length) (cntB (doneL l) (doneL l).length) (zf8 (doneL l) (doneL l).length) (.slice ad n c)),.nilIface])/\zaf w' (.slice ad n c) (zaS (doneL l) (doneL l).length)/\Below w.heap.size w w':=by
 have HC:Hid (∀W,Below w.heap.size w W->Calls Tryz.prog 51 #[v] W fun e w'=>∃v',e=.returned (.tuple #[v',.nilIface])/\zai w' v' (doneL l)/\Below W.heap.size W w'):=fun W hW=>done_ok l v W (hI.below hW (Nat.le_refl _)) hc;have hcd:=chk_done hc;obtain⟨d,hd⟩:∃d,doneL l=d:=⟨_,rfl⟩;rw[hd]at HC hcd ⊢;have hl:=zaQ hcd;have HOP:Hid (∀o∈d,isOpB o=true):=chk_ops hcd;clear hI hc hcd hd;go_enter Tryz.func78,Tryz.ntmps78;go_wp2_with fail;refine zero_split w _ rfl ?_;intro W hW hbW;have HZ:Hid (zam W w.heap.size (fun _=>0) (fun _=>0) (fun _=>0) (.slice none 0 0)):=hW;have HB:Hid (Below w.heap.size w W):=hbW;clear hW hbW;refine(HC.out W HB.out).mono ?_;rintro e w1 ⟨v1,rfl,hI1,hb1⟩;have HZ1:Hid (w1.heap[w.heap.size]? = some (.cells zkl 138 (0,0))):=HZ.out.below hb1 HZ.out.lt;have hw1:w.heap.size<w1.heap.size:=Nat.lt_of_lt_of_le HZ.out.lt hb1.size;have HB1:Hid (Below w.heap.size w w1):=HB.out.trans (hb1.mono HB.out.size);obtain⟨ad,b,off,cap,hv1,ha,-,hbB,hops⟩:=hI1;subst hv1;have HE:Hid (∀W,Below w1.heap.size w1 W->∀k,k<d.length->ad=some ⟨b,off,none⟩/\W.cell? ⟨b,off+k*3,none⟩=some (.int .i64 (opAt d k).1)/\W.cell? ⟨b,off+k*3+1,none⟩=some (.int .i64 (opAt d k).2.1)/\W.cell? ⟨b,off+k*3+2,none⟩=some (.int .i64 (opAt d k).2.2)):=fun W hW k hk=>⟨ha (by omega),(hops.below hW hbB) k hk⟩;clear ha hbB hops hb1 HZ HB HC;go_wp2_with fail
 go_loopw [20] (fun v20 wr=>∃k:Nat,k<=d.length/\v20=.int .i64 k/\zfu wr w1.heap.size d k/\Below w1.heap.size w1 wr) (fun v20 _=>d.length-(intOf v20).toNat)
 case atStart=>exact⟨0,Nat.zero_le _,rfl,zlq w1 d,(Below.refl _ w1).alloc (Nat.le_refl _) _⟩
 case round =>
  obtain⟨k,hk,rfl,hpl,hbr⟩:=hrel;have HP:Hid (zfu wr w1.heap.size d k):=hpl;have HBR:Hid (Below w1.heap.size w1 wr):=hbr;clear hpl;by_cases hlt:k<d.length
  ·have hlt':(k:Int)<(d.length:Int):=by omega
   obtain⟨hadr,c0,c1,c2⟩:=HE.out wr hbr k hlt;subst hadr;obtain⟨⟨t,a,x⟩,ho⟩:∃o:Op3,opAt d k=o:=⟨_,rfl⟩;have hisop:=HOP.out _ (zal hlt);rw[ho]at c0 c1 c2 hisop;have HO:Hid (opAt d k=(t,a,x)):=ho;have HIS:Hid (isOpB (t,a,x)=true):=hisop;simp only at c0 c1 c2;clear ho hisop hbr;have HCL:Hid (∀o,Calls Tryz.prog 137 #[.pointer (some ⟨w1.heap.size,0,none⟩),.agg #[.int .i64 t,.int .i64 a,.int .i64 x]] (wr.alloc o) fun e w'=>e=.returned (.tuple #[])/\zfu w' w1.heap.size d (k+1)/\Below w1.heap.size (wr.alloc o) w'):=fun o=>ztu d k _ t a x _ (HP.out.alloc o) hlt hl HO.out HIS.out;go_wp2_with (go_at_call 137;refine(HCL.out _).mono ?_;rintro e w2 ⟨rfl,hp2,hb2⟩);go_roundw
   case rel=>exact⟨k+1,by omega,by go_num,hp2,(HBR.out.alloc HBR.out.size _).trans hb2⟩
   case measure=>simp[intOf];omega
  ·have hlt':¬(k:Int)<(d.length:Int):=by omega
   obtain rfl:k=d.length:=by omega
   obtain⟨sv,hbd,hown⟩:=HP.out;obtain⟨ad2,n2,cap2,rfl⟩:=zgs hown;have HBD:Hid (wr.heap[w1.heap.size]? = some (.cells (cells22 (itB d d.length) (cntB d d.length) (zf8 d d.length) (.slice ad2 n2 cap2)) 138 (0,0))):=hbd;have HR:Hid (zaf wr (.slice ad2 n2 cap2) (zaS d d.length)/\wr.ownsRow (w1.heap.size+1) 3 1 (.slice ad2 n2 cap2) (zaS d d.length).length ((zaS d d.length).map (Value.int .i64))):=⟨zap hown rfl,hown⟩;have HZR:Hid (wr.heap[w.heap.size]? = some (.cells zkl 138 (0,0))):=(hbr.block _ hw1).trans HZ1.out;clear hbd hown hbr HP;go_wp2_with (first | refine wpList_load_row rfl 138 (.tmp 6) rfl w1.heap.size rfl 138 (cells22 (itB d d.length) (cntB d d.length) (zf8 d d.length) (.slice ad2 n2 cap2)) (0,0) _ HBD.out Tryz.underlying138 rfl (zdD _ _ _ _) ?_ | refine wpList_store_row rfl 138 (.tmp 2) (.tmp 27) rfl w.heap.size (cells22 (itB d d.length) (cntB d d.length) (zf8 d d.length) (.slice ad2 n2 cap2)) rfl rfl 138 zkl HZR.out (zdD _ _ _ _) (by rw[zbS];rfl) (ziB _ _ _ _ _ _) ?_);refine bodyPost_ret (v:=.tuple #[.agg (cells22 (itB d d.length) (cntB d d.length) (zf8 d d.length) (.slice ad2 n2 cap2)),.nilIface]) (zj1 Tryz.results78 _ _ w.heap.size 138 (cells22 (itB d d.length) (cntB d d.length) (zf8 d d.length) (.slice ad2 n2 cap2)) (0,0) _ _ rfl rfl (setRow_heap _ _ _ _ _ _ HZR.out) Tryz.underlying138 rfl (zdD _ _ _ _)) rfl ⟨_,_,_,rfl,?_,below_setRow (HB1.out.trans (HBR.out.mono HB1.out.size)) (Nat.le_refl _) _⟩;exact zap (zq5 HR.out.2 (by omega) _) rfl
theorem zs9:zwF:=by
 intro l v w hI hc;have HC:Hid (Calls Tryz.prog 78 #[v] w fun e w'=>∃ad n c,e=.returned (.tuple #[.agg (cells22 (itB (doneL l) (doneL l).length) (cntB (doneL l) (doneL l).length) (zf8 (doneL l) (doneL l).length) (.slice ad n c)),.nilIface])/\zaf w' (.slice ad n c) (zaS (doneL l) (doneL l).length)/\Below w.heap.size w w'):=ztt l v w hI hc;obtain⟨d,hd⟩:∃d,doneL l=d:=⟨_,rfl⟩;rw[hd]at HC ⊢;clear hI hc hd;obtain⟨C,hC⟩:∃C,cntB d d.length=C:=⟨_,rfl⟩;obtain⟨S,hS⟩:∃S,zf8 d d.length=S:=⟨_,rfl⟩;rw[hC,hS]at HC;clear hC hS;go_enter Tryz.func28,Tryz.ntmps28;go_wp2_with fail;refine HC.out.mono ?_;rintro e w1 ⟨ad,n,c,rfl,-,hb1⟩;have HB1:Hid (Below w.heap.size w w1):=hb1;have HZ:Hid ((w1.alloc (.cells zkl 138)).heap[w1.heap.size]? = some (.cells zkl 138 (0,0))):=zf6 w1 _ _ _ _;clear hb1
 go_upto_region 2 with(refine wpList_store_row rfl 138 (.tmp 4) (.tmp 9) rfl w1.heap.size (cells22 (itB d d.length) C S (.slice ad n c)) rfl rfl 138 zkl HZ.out (zdD _ _ _ _) (by rw[zbS];rfl) (ziB _ _ _ _ _ _) ?_)
 refine zno w1 _ _ _ _ _ rfl ?_;intro W hW hbW
 have HV:Hid (zaf W (.slice (some ⟨w1.heap.size,1,none⟩) 6 6) (valsL d)):=by
  refine⟨some ⟨w1.heap.size,1,none⟩,w1.heap.size,1,6,by simp[valsL],fun _=>rfl,fun h=>(by cases h),.inl hW.lt,fun i hi=>?_⟩;have hi6:i<6:=by simpa[valsL]using hi
  rw[hW.item (k:=1+i) (by omega)];simp[valsL,itB,List.getD,hi6,Int.add_comm]
 have HBW:Hid (Below w.heap.size w W):=HB1.out.trans (hbW.mono HB1.out.size);clear hbW hW;go_wp2_with fail;refine(clone_ints _ _ _ HV.out (by have:=zw2 d;simp[valsL])).mono ?_;rintro e w2 ⟨v2,rfl,hown,hb2⟩;have HR:Hid (zaf w2 v2 (valsL d)):=zap hown rfl;clear hown;go_wp2_with fail;go_ret2;exact⟨_,rfl,HR.out,HBW.out.trans (hb2.mono HBW.out.size)⟩
end Go.Proofs.YthlhgiihngcobaaGreatDoor
namespace Go.Proofs.YthlhgiihngcobaaGreatDoor
open Go.RowKit
structure zac(F:Nat->Prop)(w w':World):Prop where
 os:w'.os=w.os
 tape:w'.tape=w.tape
 output:w'.output=w.output
 size:w.heap.size<=w'.heap.size
 block:∀k,k<w.heap.size->¬F k->w'.heap[k]? = w.heap[k]?
theorem zac.refl(F:Nat->Prop)(w:World):zac F w w:=⟨rfl,rfl,rfl,Nat.le_refl _,fun _ _ _=>rfl⟩
theorem zac.trans{F G:Nat->Prop}{w w1 w2:World}(h:zac F w w1)(k:zac G w1 w2)(hG:∀j,j<w.heap.size->G j->F j):zac F w w2 :=⟨k.os.trans h.os,k.tape.trans h.tape,k.output.trans h.output,Nat.le_trans h.size k.size,fun j h1 h2=>(k.block j (Nat.lt_of_lt_of_le h1 h.size) (fun hg=>h2 (hG j h1 hg))).trans (h.block j h1 h2)⟩
theorem zac.of_below{F:Nat->Prop}{w w':World}(h:Below w.heap.size w w'):zac F w w':=⟨h.os,h.tape,h.output,h.size,fun k hk _=>h.block k hk⟩
theorem zac.below{F:Nat->Prop}{B:Nat}{w w':World}(h:zac F w w')(hB:B<=w.heap.size)(hF:∀k,k<B->¬F k):Below B w w':=⟨h.os,h.tape,h.output,h.size,fun k hk=>h.block k (Nat.lt_of_lt_of_le hk hB) (hF k hk)⟩
theorem zac.then_below{F:Nat->Prop}{w w1 w2:World}(h:zac F w w1)(k:Below w1.heap.size w1 w2):zac F w w2:=h.trans (zac.of_below (F:=fun _=>False) k) fun _ _ hf=>hf.elim
theorem zac.drew{F:Nat->Prop}{w w1:World}(h:zac F w w1):zac F w w1.drew:=⟨h.os,h.tape,h.output,h.size,h.block⟩
theorem zac.alloc{F:Nat->Prop}{w w1:World}(h:zac F w w1)(o:Obj):zac F w (w1.alloc o):=h.then_below ((Below.refl _ w1).alloc (Nat.le_refl _) o)
theorem zac.setCell{F:Nat->Prop}{w w1:World}(h:zac F w w1){p:Addr}(hp:F p.block\/w.heap.size<=p.block)(u:Value):zac F w (w1.setCell p u):=by
 refine⟨h.os,h.tape,h.output,by simpa using h.size,fun k h1 h2=>?_⟩
 have hne:k≠p.block:=by
  intro e;rcases hp with hp | hp
  ·exact h2 (e ▸hp)
  ·omega
 exact(Below.heap_setCell w1 p u k hne).trans (h.block k h1 h2)
theorem zac.grown{F:Nat->Prop}{w w1 w2:World}{row:Option Nat}(h:zac F w w1)(hg:w1.grownBy w2 row)(hr:∀k,row=some k->F k\/w.heap.size<=k):zac F w w2 :=
 ⟨hg.os.trans h.os,hg.tape.trans h.tape,hg.output.trans h.output,Nat.le_trans h.size hg.size,fun k h1 h2=>(hg.block k (Nat.lt_of_lt_of_le h1 h.size) (fun e=>by
  rcases hr k e.symm with hp | hp
  ·exact h2 hp
  ·omega)).trans (h.block k h1 h2)⟩
theorem zac.mono{F G:Nat->Prop}{w w1:World}(h:zac F w w1)(hF:∀k,k<w.heap.size->F k->G k):zac G w w1:=⟨h.os,h.tape,h.output,h.size,fun k h1 h2=>h.block k h1 fun hf=>h2 (hF k h1 hf)⟩
theorem zac.cell{F:Nat->Prop}{w w1:World}(h:zac F w w1){p:Addr}(hp:p.block<w.heap.size)(hF:¬F p.block):w1.cell? p=w.cell? p:=World.cell?_of_block (w:=w) (h.block p.block hp hF)
theorem zac.own{F:Nat->Prop}{w w1:World}{base e size n:Nat}{v:Value}{xs:List Value}(h:zac F w w1)(ho:w.ownsRow base e size v n xs)(hF:∀g,v.ownBlock=some g->¬F g):w1.ownsRow base e size v n xs:=by
 have h':=ho;obtain⟨hl,hd | ⟨g,cap,cur,hv,hbg,hg,hn,hm,hsz,htk⟩⟩:=ho
 ·exact⟨hl,.inl hd⟩
 ·refine⟨hl,.inr ⟨g,cap,cur,hv,hbg,?_,hn,hm,hsz,htk⟩⟩;rw[h.block g (h'.lt g (by rw[hv];rfl)).2 (hF g (by rw[hv];rfl))];exact hg
theorem zhm{w:World}{base base2 e size n:Nat}{v:Value}{xs:List Value}(h:w.ownsRow base e size v n xs)(hb:base2<=base):w.ownsRow base2 e size v n xs:=by
 obtain⟨hl,hd | ⟨g,cap,cur,hv,hbg,hg,hn,hm,hsz,htk⟩⟩:=h
 ·exact⟨hl,.inl hd⟩
 ·exact⟨hl,.inr ⟨g,cap,cur,hv,Nat.le_trans hb hbg,hg,hn,hm,hsz,htk⟩⟩
theorem zbH{w:World}{base e n:Nat}{v:Value}{l:List Op3}(h:w.ownsRow base e 3 v n (flat l))(hl:l.length=n):zai w v l:=by
 have h':=h;obtain⟨hx,⟨hv,hd⟩ | ⟨g,cap,cur,hv,hb,hg,hn,hm,hsz,htk⟩⟩:=h'
 ·have:l=[]:=List.length_eq_zero_iff.1 (by omega);subst this;rw[hv];exact⟨none,0,0,0,rfl,fun h=>absurd h (by simp),fun _=>⟨rfl,rfl⟩,.inr rfl,fun i hi=>by simp at hi⟩
 ·refine⟨some ⟨g,0,none⟩,g,0,cap,by rw[hl];exact hv,fun _=>rfl,fun h=>(by simp at h),.inl (h.lt g (by rw[hv];rfl)).2,zo0 fun j u hj=>?_⟩;have:=h.cells (g:=g) (by rw[hv];rfl) j u hj;rw[Addr.add_lit]at this;exact this
theorem zad{w:World}{base e size n:Nat}{v:Value}{xs:List Value}(h:w.ownsRow base e size v n xs):∃ad c,v=.slice ad n c/\(0<n->∃g,ad=some ⟨g,0,none⟩/\base<=g/\g<w.heap.size/\∀k,w.frozen? ⟨g,k,none⟩=false):=by
 have h':=h;obtain⟨_,⟨hv,h0⟩ | ⟨g,c,cur,hv,hb,hg,_⟩⟩:=h
 ·exact⟨none,0,by rw[hv,h0],fun hp=>absurd hp (by omega)⟩
 ·exact⟨_,c,hv,fun _=>⟨g,rfl,hb,(h'.lt g (by rw[hv];rfl)).2,fun k=>by simp[World.frozen?,hg]⟩⟩
theorem zv1:∀(l:List Op3) (k:Nat) (x:Op3),k<l.length->flat (l.set k x)=(((flat l).set (k*3) (.int .i64 x.1)).set (k*3+1) (.int .i64 x.2.1)).set (k*3+2) (.int .i64 x.2.2):=by
 intro l
 induction l with
 | nil=>intro k x h;simp at h
 | cons y r ih =>
   intro k x h;cases k with
   | zero=>simp[flat]
   | succ k =>rw[List.set_cons_succ,flat,ih k x (by simpa using h),show(k+1)*3=k*3+3 by omega];simp[flat]
theorem zwu{w:World}{base e n c g:Nat}{l:List Op3}(h:w.ownsRow base e 3 (.slice (some ⟨g,0,none⟩) n c) n (flat l))(hl:l.length=n){k:Nat}(hk:k<n)(x:Op3):(((w.setCell ⟨g,k*3,none⟩ (.int .i64 x.1)).setCell ⟨g,k*3+1,none⟩ (.int .i64 x.2.1)).setCell ⟨g,k*3+2,none⟩ (.int .i64 x.2.2)).ownsRow base e 3 (.slice (some ⟨g,0,none⟩) n c) n (flat (l.set k x)):=by
 obtain⟨hx,⟨hv,_⟩ | ⟨g2,c2,cur,hv,hb,hg,hn,hm,hsz,htk⟩⟩:=h
 ·cases hv
 ·simp only[Value.slice.injEq,Option.some.injEq,Addr.mk.injEq,and_true,true_and]at hv;obtain⟨rfl,rfl⟩:=hv;refine⟨by rw[zbr,List.length_set,hl],.inr ⟨g,c,((cur.setIfInBounds (k*3) (.int .i64 x.1)).setIfInBounds (k*3+1) (.int .i64 x.2.1)).setIfInBounds (k*3+2) (.int .i64 x.2.2),rfl,hb,?_,hn,hm,by simpa using hsz,?_⟩⟩
  ·unfold World.setCell;simp[Array.getElem?_modify,hg]
  ·rw[zv1 l k x (by omega),<-htk];simp only[Array.toList_setIfInBounds,List.take_set]
theorem zx9{l:List Op3}{x:Op3}:∀ {k:Nat},k<l.length->(∀j,j<k->zb0 (opAt l j) x=false)->zb0 (opAt l k) x=true->holdL l x=l.set k x:=by
 induction l with
 | nil=>intro k hk;simp at hk
 | cons y r ih =>
   intro k hk hno hyes;cases k with
   | zero =>unfold holdL;rw[if_pos (by simpa[opAt,List.getD]using hyes)];rfl
   | succ k =>have h0:=hno 0 (by omega);unfold holdL;rw[if_neg (by simpa[opAt,List.getD]using h0),List.set_cons_succ,ih (by simpa using hk) (fun j hj=>by simpa[opAt,List.getD]using hno (j+1) (by omega)) (by simpa[opAt,List.getD]using hyes)]
theorem zsW{l:List Op3}{x:Op3}(h:∀j,j<l.length->zb0 (opAt l j) x=false):holdL l x=l++[x]:=by
 induction l with
 | nil=>rfl
 | cons y r ih =>have h0:=h 0 (by simp);unfold holdL;rw[if_neg (by simpa[opAt,List.getD]using h0),ih fun j hj=>by simpa[opAt,List.getD]using h (j+1) (by simpa using hj)];rfl
def zfX(T:Nat)(hv wv:Value)(k:Nat):Prop:=k=T\/hv.ownBlock=some k\/wv.ownBlock=some k
def put2(cs:Array Value)(o:Nat)(hv wv:Value):Array Value:=(cs.setIfInBounds o hv).setIfInBounds (o+1) wv
theorem ztG(cs:Array Value)(o:Nat)(hv wv:Value):(put2 cs o hv wv).size=cs.size:=by simp[put2]
theorem zer(cs:Array Value)(o:Nat)(hv wv:Value)(k:Nat):(put2 cs o hv wv)[k]? = if k=o+1 then(if o+1<cs.size then some wv else none)else if k=o then(if o<cs.size then some hv else none)else cs[k]? := by
 unfold put2;rw[Array.getElem?_setIfInBounds,Array.getElem?_setIfInBounds,Array.size_setIfInBounds];by_cases h1:k=o+1
 ·subst h1;simp
 ·by_cases h2:k=o
  ·subst h2;simp
  ·rw[if_neg (fun e=>h1 e.symm),if_neg (fun e=>h2 e.symm),if_neg h1,if_neg h2]
theorem zmq(cs:Array Value)(o:Nat)(a b c d:Value):put2 (put2 cs o a b) o c d=put2 cs o c d:=by
 refine Array.ext_getElem? fun k=>?_;rw[zer,zer,zer,ztG];split
 ·rfl
 ·split <;> rfl
theorem zvd{cs:Array Value}{o:Nat}{hv wv:Value}(h0:cs[o]? = some hv)(h1:cs[o+1]? = some wv):put2 cs o hv wv=cs:=by
 refine Array.ext_getElem? fun k=>?_;have l0:=(Array.getElem?_eq_some_iff.1 h0).1;have l1:=(Array.getElem?_eq_some_iff.1 h1).1;rw[zer,if_pos l1,if_pos l0];split
 ·rename_i e;simp[e,h1]
 ·split
  ·rename_i e;simp[e,h0]
  ·rfl
theorem zAH{cs:Array Value}{o:Nat}{wv:Value}(v:Value)(h1:cs[o+1]? = some wv):cs.setIfInBounds o v=put2 cs o v wv:=by
 refine Array.ext_getElem? fun k=>?_;have l1:=(Array.getElem?_eq_some_iff.1 h1).1;rw[zer,Array.getElem?_setIfInBounds];by_cases h2:k=o+1
 ·subst h2;rw[if_neg (by omega),if_pos rfl,if_pos l1,h1]
 ·by_cases h3:k=o
  ·subst h3;simp
  ·rw[if_neg (fun e=>h3 e.symm),if_neg h2,if_neg h3]
theorem zyn{cs:Array Value}{o:Nat}{hv:Value}(v:Value)(h0:cs[o]? = some hv):cs.setIfInBounds (o+1) v=put2 cs o hv v:=by
 refine Array.ext_getElem? fun k=>?_;have l0:=(Array.getElem?_eq_some_iff.1 h0).1;rw[zer,Array.getElem?_setIfInBounds];by_cases h2:k=o+1
 ·subst h2;simp
 ·rw[if_neg (fun e=>h2 e.symm),if_neg h2];by_cases h3:k=o
  ·subst h3;rw[if_pos rfl,if_pos l0,h0]
  ·rw[if_neg h3]
structure zaK(w:World)(ty:TypeId)(T o:Nat)(cs:Array Value)(hv wv:Value)(s:za3):Prop where
 blk:w.heap[T]? = some (.cells cs ty (0,0))
 at0:cs[o]? = some hv
 at1:cs[o+1]? = some wv
 oh:w.ownsRow (T+1) 269 3 hv s.1.length (flat s.1)
 ow:w.ownsRow (T+1) 269 3 wv s.2.length (flat s.2)
 apart:∀g,hv.ownBlock=some g->wv.ownBlock=some g->False
section
variable {w w1:World} {F:Nat->Prop} {ty:TypeId} {T o:Nat} {cs:Array Value} {hv wv v:Value} {s:za3}
theorem zaK.lt(h:zaK w ty T o cs hv wv s):T<w.heap.size:=(Array.getElem?_eq_some_iff.1 h.blk).1
theorem zaK.c0(h:zaK w ty T o cs hv wv s):w.cell? ⟨T,o,none⟩=some hv:=by rw[cell_of_row w T _ _ _ _ h.blk];exact h.at0
theorem zaK.c1(h:zaK w ty T o cs hv wv s):w.cell? ⟨T,o+1,none⟩=some wv:=by rw[cell_of_row w T _ _ _ _ h.blk];exact h.at1
theorem zaK.thaw(h:zaK w ty T o cs hv wv s)(k:Nat):w.frozen? ⟨T,k,none⟩=false:=by simp[World.frozen?,h.blk]
theorem zaK.foot_lt(h:zaK w ty T o cs hv wv s){k:Nat}(hk:zfX T hv wv k):T<=k/\k<w.heap.size:=by
 have:=h.lt;rcases hk with rfl | hk | hk
 ·omega
 ·have:=h.oh.lt k hk;omega
 ·have:=h.ow.lt k hk;omega
theorem zaK.turn(h:zaK w ty T o cs hv wv s)(ht:zac F w w1)(hF:∀k,zfX T hv wv k->¬F k):zaK w1 ty T o cs hv wv s :=⟨(ht.block T h.lt (hF T (.inl rfl))).trans h.blk,h.at0,h.at1,ht.own h.oh fun g hg=>hF g (.inr (.inl hg)),ht.own h.ow fun g hg=>hF g (.inr (.inr hg)),h.apart⟩
theorem zaK.below(h:zaK w ty T o cs hv wv s)(hb:Below w.heap.size w w1):zaK w1 ty T o cs hv wv s:=h.turn (zac.of_below (F:=fun _=>False) hb) fun _ _ hf=>hf
theorem zaK.held(h:zaK w ty T o cs hv wv s):zai w hv s.1:=zbH h.oh rfl
theorem zaK.waits(h:zaK w ty T o cs hv wv s):zai w wv s.2:=zbH h.ow rfl
theorem zaK.put(h:zaK w ty T o cs hv wv s):put2 cs o hv wv=cs:=zvd h.at0 h.at1
theorem zkr{a b:Value}(h:o+1<cs.size):(put2 cs o a b)[o]? = some a:=by rw[zer,if_neg (by omega),if_pos rfl,if_pos (by omega)]
theorem zjY{a b:Value}(h:o+1<cs.size):(put2 cs o a b)[o+1]? = some b:=by rw[zer,if_pos rfl,if_pos h]
theorem zaK.room(h:zaK w ty T o cs hv wv s):o+1<cs.size:=(Array.getElem?_eq_some_iff.1 h.at1).1
def TabStep(w w':World)(ty:TypeId)(T o:Nat)(cs:Array Value)(hv wv:Value)(s:za3):Prop:=∃hv' wv',zaK w' ty T o (put2 cs o hv' wv') hv' wv' s/\zac (zfX T hv wv) w w'/\∀k,zfX T hv' wv' k->zfX T hv wv k\/w.heap.size<=k
theorem TabStep.same(h:zaK w ty T o cs hv wv s)(hb:Below w.heap.size w w1):TabStep w w1 ty T o cs hv wv s:=⟨hv,wv,by rw[h.put];exact h.below hb,zac.of_below hb,fun _ hk=>.inl hk⟩
theorem TabStep.later{w2:World}{s2:za3}(ht:zac (zfX T hv wv) w w1)(h2:TabStep w1 w2 ty T o cs hv wv s2):TabStep w w2 ty T o cs hv wv s2:=by
 obtain⟨hv2,wv2,h3,h4,h5⟩:=h2;refine⟨hv2,wv2,h3,ht.trans h4 fun _ _ hk=>hk,fun k hk=>?_⟩;rcases h5 k hk with h | h
 ·exact .inl h
 ·exact .inr (Nat.le_trans ht.size h)
theorem za9{k:Nat}{u:Value}(h:w.heap[T]? = some (.cells cs ty (0,0))):(w.setCell ⟨T,k,none⟩ u).heap[T]? = some (.cells (cs.setIfInBounds k u) ty (0,0)):=by unfold World.setCell;simp[Array.getElem?_modify,h]
theorem zpT{l:List Op3}(h:zaK w ty T o cs hv wv s)(ht:zac (fun k=>hv.ownBlock=some k) w w1)(ho:w1.ownsRow (T+1) 269 3 v l.length (flat l))(hv1:∀g,v.ownBlock=some g->hv.ownBlock=some g\/w.heap.size<=g):TabStep w (w1.setCell ⟨T,o,none⟩ v) ty T o cs hv wv (l,s.2):=by
 have hl:=h.lt;have hT:w1.heap[T]? = some (.cells cs ty (0,0)):=(ht.block T hl (fun e=>by have:=(h.oh.lt T e).1;omega)).trans h.blk;refine⟨v,wv,⟨?_,zkr h.room,zjY h.room,ownsRow_setCell_below ho (by show T<T+1;omega) _,?_,fun g h1 h2=>?_⟩,(ht.mono fun k _ e=>.inr (.inl e)).setCell (.inl (.inl rfl)) _,fun k hk=>?_⟩
 ·rw[za9 hT,zAH v h.at1]
 ·exact ownsRow_setCell_below (ht.own h.ow fun g hg e=>h.apart g e hg) (by show T<T+1;omega) _
 ·rcases hv1 g h1 with h3 | h3
  ·exact h.apart g h3 h2
  ·have:=(h.ow.lt g h2).2;omega
 ·rcases hk with hk | hk | hk
  ·exact .inl (.inl hk)
  ·rcases hv1 k hk with h3 | h3
   ·exact .inl (.inr (.inl h3))
   ·exact .inr h3
  ·exact .inl (.inr (.inr hk))
theorem zxq{l:List Op3}(h:zaK w ty T o cs hv wv s)(ht:zac (fun k=>wv.ownBlock=some k) w w1)(ho:w1.ownsRow (T+1) 269 3 v l.length (flat l))(hv1:∀g,v.ownBlock=some g->wv.ownBlock=some g\/w.heap.size<=g):TabStep w (w1.setCell ⟨T,o+1,none⟩ v) ty T o cs hv wv (s.1,l):=by
 have hl:=h.lt;have hT:w1.heap[T]? = some (.cells cs ty (0,0)):=(ht.block T hl (fun e=>by have:=(h.ow.lt T e).1;omega)).trans h.blk;refine⟨hv,v,⟨?_,zkr h.room,zjY h.room,?_,ownsRow_setCell_below ho (by show T<T+1;omega) _,fun g h1 h2=>?_⟩,(ht.mono fun k _ e=>.inr (.inr e)).setCell (.inl (.inl rfl)) _,fun k hk=>?_⟩
 ·rw[za9 hT,zyn v h.at0]
 ·exact ownsRow_setCell_below (ht.own h.oh fun g hg e=>h.apart g hg e) (by show T<T+1;omega) _
 ·rcases hv1 g h2 with h3 | h3
  ·exact h.apart g h1 h3
  ·have:=(h.oh.lt g h1).2;omega
 ·rcases hk with hk | hk | hk
  ·exact .inl (.inl hk)
  ·exact .inl (.inr (.inl hk))
  ·rcases hv1 k hk with h3 | h3
   ·exact .inl (.inr (.inr h3))
   ·exact .inr h3
theorem zyX{g n c:Nat}(h:zaK w ty T o cs (.slice (some ⟨g,0,none⟩) n c) wv s)(hn:s.1.length=n){k:Nat}(hk:k<n)(x:Op3):TabStep w (((w.setCell ⟨g,k*3,none⟩ (.int .i64 x.1)).setCell ⟨g,k*3+1,none⟩ (.int .i64 x.2.1)).setCell ⟨g,k*3+2,none⟩ (.int .i64 x.2.2)) ty T o cs (.slice (some ⟨g,0,none⟩) n c) wv (s.1.set k x,s.2):=by
 have hl:=h.lt;have hg:=(h.oh.lt g rfl).1;have hoh:=h.oh;rw[hn]at hoh;have ht:zac (fun j=>j=g) w (((w.setCell ⟨g,k*3,none⟩ (.int .i64 x.1)).setCell ⟨g,k*3+1,none⟩ (.int .i64 x.2.1)).setCell ⟨g,k*3+2,none⟩ (.int .i64 x.2.2)):=by refine zac.setCell (zac.setCell (zac.setCell (zac.refl _ w) ?_ _) ?_ _) ?_ _ <;> exact .inl rfl
 refine⟨_,wv,⟨by rw[h.put];exact(ht.block T hl (by omega)).trans h.blk,zkr h.room,zjY h.room,?_,ht.own h.ow fun j hj e=>h.apart j (by rw[e];rfl) hj,h.apart⟩,ht.mono fun j _ e=>.inr (.inl (by rw[e];rfl)),fun j hj=>.inl hj⟩;simp only[List.length_set];rw[hn];exact zwu hoh hn hk x
theorem zbx{w2:World}{obj:Obj}(hgr:(w.drew.alloc obj).grownBy w2 hv.ownBlock):zac (fun k=>hv.ownBlock=some k) w w2 :=((zac.refl _ w).drew.alloc obj).grown hgr fun _ hk=>.inl hk
end
end Go.Proofs.YthlhgiihngcobaaGreatDoor
namespace Go.Proofs.YthlhgiihngcobaaGreatDoor
open Go.RowKit
open Go.Maps (Keyed)
def zaO(v:Value):Option (DataW Value × List MemPlace):=some (.held v,[])
theorem KI:Keyed Tryz.prog 3:=Maps.int_keyed Tryz.underlying3
abbrev Wf(x:Int):Prop:=(Lit.int .i64 x).wf=true
theorem zaX{x:Int}(h1:1<=x)(h6:x<=6):Wf x:=WalkArith.wf_i64 (by omega)
theorem zBC{x:Int}(h:Wf x):keyOf Tryz.prog 3 (.int .i64 x)=some (.int .i64 x):=Maps.keyOf_int_mk Tryz.underlying3 h
def zax(w:World)(b:Nat)(f:Int->Option Value)(m:Nat):Prop :=∃D:DataW Value,w.ownsMap Tryz.prog 3 zaO b m D/\Maps.size D=m/\(∀x,Wf x->Maps.has D (.int .i64 x)=(f x).isSome)/\(∀x v,Wf x->f x=some v->∀z,D.atKey (.int .i64 x) z=.held v)/\∀x,(f x).isSome=true->1<=x/\x<=6
theorem zoG:∀(l m:List Lit),l.Pairwise (·≠·)->(∀x∈l,x∈m)->l.length<=m.length:=by
 intro l
 induction l with
 | nil=>intro m _ _;exact Nat.zero_le _
 | cons x r ih =>
   intro m hp hm;rw[List.pairwise_cons]at hp;obtain⟨a,b,rfl⟩:=List.append_of_mem (hm x List.mem_cons_self)
   have h1:=ih (a++b) hp.2 fun y hy=>by
    have h2:=hm y (List.mem_cons_of_mem _ hy);rw[List.mem_append,List.mem_cons]at h2;rw[List.mem_append];rcases h2 with h2 | h2 | h2
    ·exact .inl h2
    ·exact absurd h2.symm (hp.1 y hy)
    ·exact .inr h2
   simp only[List.length_append,List.length_cons]at h1 ⊢;omega
theorem zl3{w:World}{b n:Nat}{D:DataW Value}(h:w.ownsMap Tryz.prog 3 zaO b n D):w.ownsMap Tryz.prog 3 zaO b (Maps.size D) D:=by obtain⟨es,clock,hb,F,hs,rfl⟩:=h;refine⟨es,clock,hb,F,?_,rfl⟩;simp[Maps.size,length_sorted]
theorem zzD{w:World}{b n:Nat}{D:DataW Value}(h:w.ownsMap Tryz.prog 3 zaO b n D):∃es,D=.map es/\es.Pairwise (fun p q=>p.1≠q.1)/\∀p∈es,∃x,Wf x/\p.1=.int .i64 x/\Maps.has D p.1=true:=by
 obtain⟨es,h1,h2,h3⟩:=h.entries KI;refine⟨es,h1,h2,fun p hp=>?_⟩;have hh:Maps.has D p.1=true:=by rw[h1];exact List.any_eq_true.2 ⟨p,hp,WideAt.sameKey_self (h3 p hp)⟩
 obtain⟨ms,clock,hb,F,hs,hD⟩:=h;rw[h1]at hD;have hD':es=(ms.toList.map (WideElems.rg Tryz.prog 3 zaO)).foldr DataW.insert []:=by injection hD
 rw[hD',mem_sorted]at hp;obtain⟨e,he,rfl⟩:=List.mem_map.1 hp;obtain⟨y,hy⟩:=F.reads e he;obtain⟨x,-,hx,hw⟩:=Maps.keyOf_int_inv Tryz.underlying3 (WideElems.rd_key hy);exact⟨x,hw,by rw[WideElems.rg_of hy];exact hx,hh⟩
section
variable {w w1:World} {b m:Nat} {f:Int->Option Value}
theorem zax.lt(h:zax w b f m):b<w.heap.size:=by obtain⟨D,h1,_⟩:=h;exact h1.lt
theorem zax.small(h:zax w b f m):m<=6:=by
 obtain⟨D,h1,h2,h3,h4,h5⟩:=h;obtain⟨es,e1,e2,e3⟩:=zzD h1;have h6:=zoG (es.map (·.1)) [.int .i64 1,.int .i64 2,.int .i64 3,.int .i64 4,.int .i64 5,.int .i64 6] (List.pairwise_map.2 e2) fun k hk=>by obtain⟨p,hp,rfl⟩:=List.mem_map.1 hk;obtain⟨x,hw,hx,hh⟩:=e3 p hp;rw[hx]at hh;rw[h3 x hw]at hh;have h7:=h5 x hh;rw[hx];rcases six h7.1 h7.2 with rfl | rfl | rfl | rfl | rfl | rfl <;> simp
 rw[<-h2,e1];simpa[Maps.size]using h6
theorem zax.turn{F:Nat->Prop}(h:zax w b f m)(ht:zac F w w1)(hF:¬F b):zax w1 b f m:=by have hl:=h.lt;obtain⟨D,⟨es,clock,hb,r⟩,h2⟩:=h;exact⟨D,⟨es,clock,(ht.block b hl hF).trans hb,r⟩,h2⟩
theorem zax.drew(h:zax w b f m):zax w.drew b f m:=h
theorem zax.congr{g:Int->Option Value}(h:zax w b f m)(e:∀x,g x=f x):zax w b g m:=by obtain rfl:g=f:=funext e;exact h
theorem zca(w:World):zax (w.alloc (.map #[] 0)) w.heap.size (fun _=>none) 0 :=⟨.map [],World.ownsMap_made w _ _ _,rfl,fun x _=>rfl,fun x v _ h=>(by cases h),fun x h=>(by cases h)⟩
theorem zgI{w':World}(h:w.mapTurned w' b):zac (fun k=>k=b) w w':=(zac.refl _ w).grown h.grown fun _ hk=>.inl (Option.some.inj hk).symm
theorem zpc{x y:Int}(h:x≠y):Lit.int .i64 x≠Lit.int .i64 y:=fun e=>h (by injection e)
theorem zsF{x:Int}(h:Wf x):WideAt.IsKeyLit (.int .i64 x):=KI.key (zBC h)
theorem zax.look(c:Bool){t e:TypeId}{z:Value}{x:Int}(h:zax w b f m)(ht:Tryz.prog.underlying t=some (.map 3 e))(hz:(zeroValue e).run Tryz.prog w=.ok z w)(hx:Wf x):(Instr.lookup t (.map (some b)) (.int .i64 x) c).run Tryz.prog w=.ok (if c then .tuple #[(f x).getD z,.bool (f x).isSome]else(f x).getD z) w:=by
 obtain⟨D,h1,h2,h3,h4,h5⟩:=h
 have hv:∀v ps,zaO v=some (D.atKey (.int .i64 x) (.held z),ps)->v=(f x).getD z:=fun v ps hv=>by
  simp only[zaO,Option.some.injEq,Prod.mk.injEq]at hv;cases hf:f x with
  | some u =>rw[h4 x u hx hf]at hv;have:=hv.1;injection this with this
  | none =>rw[Maps.atKey_of_not_has (by rw[h3 x hx,hf];rfl)]at hv;have:=hv.1;injection this with this
 cases c with
 | true =>obtain⟨v,ps,hr,hR⟩:=h1.look_ok KI ht hz (zd:=.held z) (zp:=[]) rfl (zBC hx);rw[hr,h3 x hx,hv v ps hR];rfl
 | false =>obtain⟨v,ps,hr,hR⟩:=h1.lookup KI ht hz (zd:=.held z) (zp:=[]) rfl (zBC hx);rw[hr,hv v ps hR];rfl
theorem zax.store{t e:TypeId}{x:Int}{v:Value}(h:zax w b f m)(ht:Tryz.prog.underlying t=some (.map 3 e))(h1:1<=x)(h6:x<=6):∃w',(Instr.mapUpdate t (.map (some b)) (.int .i64 x) v).run Tryz.prog w=.ok () w'/\zax w' b (setF f x (some v)) (if(f x).isSome then m else m+1)/\zac (fun k=>k=b) w w':=by
 have hs:=h.small;have hx:=zaX h1 h6;obtain⟨D,k1,k2,k3,k4,k5⟩:=h;obtain⟨w',hr,ho,htu⟩:=k1.store KI ht (by unfold maxLen;omega) (zBC hx) (d:=.held v) (ps:=[]) rfl;have hsz:Maps.size (D.put (.int .i64 x) (.held v))=if(f x).isSome then m else m+1:=by rw[Maps.size_put (k1.tidy KI),k3 x hx,k2]
 refine⟨w',hr,⟨_,?_,hsz,fun y hy=>?_,fun y u hy hu=>?_,fun y hy=>?_⟩,zgI htu⟩
 ·rw[<-hsz];exact zl3 ho
 ·by_cases e:y=x
  ·subst e;rw[setF_same,Maps.has_put_same k1.isMap (zsF hx)];rfl
  ·rw[zaa _ _ e,Maps.has_put_other (zpc e)];exact k3 y hy
 ·intro z;by_cases e:y=x
  ·subst e;rw[setF_same]at hu;rw[Maps.atKey_put_same k1.isMap (zsF hx),Option.some.inj hu]
  ·rw[zaa _ _ e]at hu;rw[Maps.atKey_put_other (zpc e)];exact k4 y u hy hu z
 ·by_cases e:y=x
  ·subst e;exact⟨h1,h6⟩
  ·rw[zaa _ _ e]at hy;exact k5 y hy
theorem zax.drop{t e:TypeId}{x:Int}(h:zax w b f m)(ht:Tryz.prog.underlying t=some (.map 3 e))(hx:Wf x)(ty:TypeId):∃w' m',(Builtin.delete_ #[t,3] ty #[.map (some b),.int .i64 x]).run Tryz.prog w=.ok (.tuple #[]) w'/\zax w' b (setF f x none) m'/\zac (fun k=>k=b) w w':=by
 obtain⟨D,k1,k2,k3,k4,k5⟩:=h;obtain⟨w',hr,ho,htu⟩:=k1.drop KI ht (zBC hx) ty;refine⟨w',Maps.size (D.del (.int .i64 x)),hr,⟨_,zl3 ho,rfl,fun y hy=>?_,fun y u hy hu=>?_,fun y hy=>?_⟩,zgI htu⟩
 ·by_cases e:y=x
  ·subst e;rw[setF_same,Maps.has_del_same];rfl
  ·rw[zaa _ _ e,Maps.has_del_other (zpc e)];exact k3 y hy
 ·intro z;by_cases e:y=x
  ·subst e;rw[setF_same]at hu;cases hu
  ·rw[zaa _ _ e]at hu;rw[Maps.atKey_del_other (zpc e)];exact k4 y u hy hu z
 ·by_cases e:y=x
  ·subst e;rw[setF_same]at hy;cases hy
  ·rw[zaa _ _ e]at hy;exact k5 y hy
end
section
variable (w:World) {ops:Array Oper} {rest:List Oper} {o:Oper} {a:Act} {Q:Exit->Act->World->Prop}
theorem zna(hg:o.guard=none)(p x:Operand)(t:TypeId)(hop:o.op=Op.call { callee:=Callee.builtin Builtin.delete,args:=#[p,x],argTypes:=#[t,3] })
  (e:TypeId) (ht:Tryz.prog.underlying t=some (.map 3 e)) (b m:Nat) (f:Int->Option Value) (hm:a.eval p=.map (some b)) (h:zax w b f m) (y:Int) (hx:a.eval x=.int .i64 y) (hy:Wf y)
  (hK:∀w' m',zax w' b (setF f y none) m'->zac (fun k=>k=b) w w'->wpList Tryz.prog ops Q rest (a.put o.dst (.tuple #[])) w'):wpList Tryz.prog ops Q (o::rest) a w:=by
 refine wpList_plain hg fun K' hK'=>?_;obtain⟨w',m',hrun,r1,r2⟩:=h.drop ht hy o.type;unfold Oper.wp;simp[execOp,hop,resolve,invoke,builtin,hm,hx,hrun,Result.andThen];exact hK' _ _ (hK w' m' r1 r2)
theorem zoK(hg:o.guard=none)(p:Operand)(t:TypeId)(hop:o.op=Op.call { callee:=Callee.builtin Builtin.len,args:=#[p],argTypes:=#[t] })
  (e:TypeId) (ht:Tryz.prog.underlying t=some (.map 3 e)) (b m:Nat) (f:Int->Option Value) (hm:a.eval p=.map (some b)) (h:zax w b f m)
  (hK:wpList Tryz.prog ops Q rest (a.put o.dst (.int .i64 m)) w):wpList Tryz.prog ops Q (o::rest) a w:=by
 obtain⟨D,k1,k2,-⟩:=h;exact wpList_len_own w hg p t hop 3 e ht zaO b m D hm k1 (by rw[k2];exact hK)
theorem zo5(hg:o.guard=none)(p x v:Operand)(t:TypeId)(hop:o.op=Op.mapUpdate t p x v)
  (e:TypeId) (ht:Tryz.prog.underlying t=some (.map 3 e)) (b m:Nat) (f:Int->Option Value) (hm:a.eval p=.map (some b)) (h:zax w b f m) (y:Int) (val:Value) (hx:a.eval x=.int .i64 y) (hv:a.eval v=val) (h1:1<=y) (h6:y<=6)
  (hK:∀w',zax w' b (setF f y (some val)) (if(f y).isSome then m else m+1)->zac (fun k=>k=b) w w'->wpList Tryz.prog ops Q rest (a.put o.dst undef) w'):wpList Tryz.prog ops Q (o::rest) a w:=by
 refine wpList_plain hg fun K' hK'=>?_;obtain⟨w',hrun,r1,r2⟩:=h.store (v:=val) ht h1 h6;unfold Oper.wp;simp[execOp,hop,hm,hx,hv,hrun,Result.andThen];exact hK' _ _ (hK w' r1 r2)
theorem zbO(hg:o.guard=none)(p x:Operand)(t:TypeId)(c:Bool)(hop:o.op=Op.lookup t p x c)
  (e:TypeId) (ht:Tryz.prog.underlying t=some (.map 3 e)) (z:Value) (hz:(zeroValue e).run Tryz.prog w=.ok z w) (b m:Nat) (f:Int->Option Value) (hm:a.eval p=.map (some b)) (h:zax w b f m) (y:Int) (hx:a.eval x=.int .i64 y) (hy:Wf y) (u:Value) (b0:Bool) (hu:(f y).getD z=u) (hb:(f y).isSome=b0)
  (hK:wpList Tryz.prog ops Q rest (a.put o.dst (if c then .tuple #[u,.bool b0]else u)) w):wpList Tryz.prog ops Q (o::rest) a w:=by
 refine wpList_plain hg fun K' hK'=>?_;have hrun:=h.look c ht hz hy;rw[hu,hb]at hrun;unfold Oper.wp;simp only[execOp,hop,hm,hx,Sem.run_bind,hrun,Result.andThen];exact hK' _ _ hK
theorem ztB{K:Act->World->Prop}{E:Prop}(hg:o.guard=none)(p x:Operand)(t:TypeId)(hop:o.op=Op.call { callee:=Callee.builtin Builtin.delete,args:=#[p,x],argTypes:=#[t,3] })
  (e:TypeId) (ht:Tryz.prog.underlying t=some (.map 3 e)) (b m:Nat) (f:Int->Option Value) (hm:a.eval p=.map (some b)) (h:zax w b f m) (y:Int) (hx:a.eval x=.int .i64 y) (hy:Wf y)
  (hK:∀w' m',zax w' b (setF f y none) m'->zac (fun k=>k=b) w w'->K (a.put o.dst (.tuple #[])) w'):if Region.wanted o (yielded ops a.tmps)=true then Oper.wp Tryz.prog o a w K Q else E:=by
 have hw:Region.wanted o (yielded ops a.tmps)=true:=by simp[Region.wanted,hg]
 rw[if_pos hw];obtain⟨w',m',hrun,r1,r2⟩:=h.drop ht hy o.type;unfold Oper.wp;simp[execOp,hop,resolve,invoke,builtin,hm,hx,hrun,Result.andThen];exact hK w' m' r1 r2
end
end Go.Proofs.YthlhgiihngcobaaGreatDoor
