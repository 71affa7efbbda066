/-
  PROVED HERE: locks.Table's method For, over a table in memory; package locks' table keeps what it is asked by one who only asks (LocksQ); slices.DeleteFunc over a row of locks of one's own, for any closure; laneref1.Table's method Free, over a table in memory.
  Conditions: none but those that each theorem's own premises say.
-/
import Derived.Test.YthlhgiihngcobaaGreatDoorMgbj
import Derived.Lib.SliceRun
import Derived.Test.YthlhgiihngcobaaGreatDoorMgbi
import Derived.Test.YthlhgiihngcobaaGreatDoorMgbg
import Derived.Laws.IdiomCopy
import Derived.Deep.Upon
set_option maxHeartbeats 32000000
set_option maxRecDepth 100000
namespace Go.Proofs.YthlhgiihngcobaaGreatDoor
open Go.RowKit
def zoS(w:World):Value->Int
 | .pointer (some a)=>intOf ((w.cell? a).getD undef)
 | _=>0
def zdE(w:World)(c:Nat)(x:Int):Prop:=w.heap[c]? = some (.cells #[.int .i64 x] 3)
theorem zdE.cell{w:World}{c:Nat}{x:Int}(h:zdE w c x):w.cell? ⟨c,0,none⟩=some (.int .i64 x):=by rw[cell_of_row w c 0 _ _ (0,0) h];rfl
theorem zdE.lt{w:World}{c:Nat}{x:Int}(h:zdE w c x):c<w.heap.size:=(Array.getElem?_eq_some_iff.1 h).1
theorem zdE.below{w w':World}{c B:Nat}{x:Int}(h:zdE w c x)(hb:Below B w w')(hc:c<B):zdE w' c x:=(hb.block c hc).trans h
theorem zdE.alloc{w:World}{c:Nat}{x:Int}(h:zdE w c x)(o:Obj):zdE (w.alloc o) c x:=h.below ((Below.refl _ w).alloc (Nat.le_refl _) o) h.lt
theorem zfC(w:World)(x:Int):zdE (w.alloc (.cells #[.int .i64 x] 3)) w.heap.size x:=heap_alloc_new w _
theorem lstore_func{P:Program}(w:World)(f:Fn)(ts cs:Array Value)(old:Value)(T:TypeId)(n:Nat)(hn:n=w.heap.size):(store ⟨n,0,none⟩ (.func f ts cs)).run P (w.alloc (.cells #[old] T))=.ok () (w.alloc (.cells #[.func f ts cs] T)):=by subst hn;rw[run_store _ _ _ _ _ rfl];simp[World.setCell_alloc_new]
theorem zwH{w:World}{v:Value}{base e n g c:Nat}{l:List Op3}(h:w.ownsRow base e 3 v n (flat l))(hl:l.length=n)(hv:v=.slice (some ⟨g,0,none⟩) n c){k:Nat}(hk:k<=n):zai w (.slice (some ⟨g,0,none⟩) k c) (l.take k):=by
 have hg:=(h.lt g (by rw[hv];rfl)).2;have hkl:(l.take k).length=k:=by rw[List.length_take];omega
 refine⟨some ⟨g,0,none⟩,g,0,c,by rw[hkl],fun _=>rfl,fun h=>(by simp at h),.inl hg,fun j hj=>?_⟩;rw[hkl]at hj;obtain⟨g2,c2,hv2,-,-,-,e0,e1,e2⟩:=zdj h hl (show j<n by omega);rw[hv]at hv2;simp only[Value.slice.injEq,Option.some.injEq,Addr.mk.injEq,and_true,true_and]at hv2;obtain⟨rfl,rfl⟩:=hv2;have he:(l.take k).getD j (0,0,0)=opAt l j:=by simp[opAt,List.getD,hj]
 rw[he];simp only[Nat.zero_add];exact⟨e0,e1,e2⟩
theorem zpH{l:List Op3}{x:Op3}{t:Int}(hl:∀y∈l,zak y=true)(hx:zak x=true):l.any (fun y=>y.1 == t && zd3 y x)=l.any (fun y=>y.1 == t && zgM y x):=by rw[Bool.eq_iff_iff,List.any_eq_true,List.any_eq_true];exact⟨fun⟨y,hy,h⟩=>⟨y,hy,by rw[<-zkp (hl y hy) hx];exact h⟩,fun⟨y,hy,h⟩=>⟨y,hy,by rw[zkp (hl y hy) hx];exact h⟩⟩
theorem whom_yes{s:za3}{x:Op3}{k:Nat}(h:zlS s x ((k:Int)+1)=true):za4 s x (k+1)=za4 s x k++[(k:Int)+1]:=by rw[za4,if_pos h]
theorem whom_no{s:za3}{x:Op3}{k:Nat}(h:zlS s x ((k:Int)+1)=false):za4 s x (k+1)=za4 s x k:=by rw[za4,if_neg (by rw[h];decide)]
theorem zpC(T:Nat)(cs:Array Value)(hv wv:Value)(s:za3)(x:Op3)(w:World)(h:zaK w 267 T 0 cs hv wv s)(hl1:s.1.length<=900)(hl2:s.2.length<=900)(hok1:∀y∈s.1,zak y=true)(hok2:∀y∈s.2,zak y=true):Calls Tryz.prog 263 #[.pointer (some ⟨T,0,none⟩),lkV x] w fun e w'=>∃v',e=.returned (.tuple #[v',zeH (zmO s x).2])/\zgO w' w.heap.size v' (zmO s x).1/\Below w.heap.size w w':=by
 obtain⟨t,i,m⟩:=x;obtain⟨i0,hi,hz0,hs0,hy0⟩:=info_parts zbK;have HI:Hid (Tryz.prog.info? 3=some i0/\i0.zero=some (.int .i64 0)/\i0.size=1/\i0.bytes=8):=⟨hi,hz0,hs0,hy0⟩;obtain⟨ad,c,rfl,-⟩:=zad h.oh;obtain⟨wad,wq,rfl,-⟩:=zad h.ow;obtain⟨n1,hn1⟩:∃n,s.1.length=n:=⟨_,rfl⟩;obtain⟨ln,hln⟩:∃n,s.2.length=n:=⟨_,rfl⟩;rw[hn1]at h hl1;rw[hln]at h hl2;have HN1:Hid (s.1.length=n1):=hn1;have HLN:Hid (s.2.length=ln):=hln;have HOK:Hid ((∀y∈s.1,zak y=true)/\∀y∈s.2,zak y=true):=⟨hok1,hok2⟩;have HT:Hid (zaK w 267 T 0 cs (.slice ad n1 c) (.slice wad ln wq) s):=h;have hTl:=h.lt;clear h hn1 hln hok1 hok2 hi hz0 hs0 hy0;go_enter Tryz.func263,Tryz.ntmps263
 go_upto_region 1 with(fail)
 obtain⟨W,hW⟩:∃W,W=w.alloc (.cells #[.int .i64 t,.int .i64 i,.int .i64 m] 269):=⟨_,rfl⟩;rw[<-hW];have hLW:za0 W w.heap.size (t,i,m):=by rw[hW];exact zbP _ _ _ _ _
 have hbW:Below w.heap.size w W:=by rw[hW];exact(Below.refl _ w).alloc (Nat.le_refl _) _
 have hPW:w.heap.size<W.heap.size:=hLW.lt;obtain⟨P,hP⟩:∃P,P=w.heap.size:=⟨_,rfl⟩;rw[<-hP]at hLW hPW hTl ⊢;have HP:Hid (P=w.heap.size):=hP;have HBW:Hid (Below w.heap.size w W):=hbW;have HLW:Hid (za0 W P (t,i,m)):=hLW;obtain⟨p0,p1,p2⟩:=hLW;simp only at p0 p1 p2;clear hW hbW hP;go_wp2_with fail;refine(pLock_raw t i m W).mono ?_;rintro e w1 ⟨rfl,hb1⟩;have HL1:Hid (za0 w1 P (t,i,m)):=HLW.out.below hb1 hPW;have HB1:Hid (Below w.heap.size w w1):=HBW.out.trans (hb1.mono (by have:=HP.out;omega));have HT1:Hid (∀V,Below w1.heap.size w1 V->zaK V 267 T 0 cs (.slice ad n1 c) (.slice wad ln wq) s):=fun V hV=>(HT.out.below HB1.out).below hV;have hP1:P<w1.heap.size:=HL1.out.lt;clear hb1 p0 p1 p2 hPW HLW HBW;cases hlk:zak (t,i,m)with
 | false =>
   have HA:Hid (zmO s (t,i,m)=([],1)):=by show zmO _ _=_;unfold zmO;rw[hlk];rfl
   clear hlk;go_wp2_with fail;go_ret2;rw[HA.out];exact⟨_,rfl,World.ownsRow_nil _ _ _ _,HB1.out⟩
 | true =>
   have HLK:Hid (zak (t,i,m)=true):=hlk;clear hlk;obtain⟨q0,q1,q2⟩:=HL1.out;simp only at q0 q1 q2;have c1:=(HT1.out w1 (Below.refl _ _)).c1;simp only[Nat.zero_add]at c1;have HOF:Hid (Calls Tryz.prog 225 #[.int .i64 t] w1.drew fun e w'=>∃P2:Nat,e=.returned (.func (.func 259) #[] #[.pointer (some ⟨P2,0,none⟩)])/\w'.cell? ⟨P2,0,none⟩=some (.int .i64 t)/\Below w1.heap.size w1 w'/\w1.heap.size<=P2):=zeG t w1 w1.drew (Below.refl _ w1).drew;have HCF:Hid (∀(V:World) (P2:Nat),Below w1.heap.size w1 V->V.cell? ⟨P2,0,none⟩=some (.int .i64 t)->Calls Tryz.prog 258 #[.slice wad ln wq,.func (.func 259) #[] #[.pointer (some ⟨P2,0,none⟩)]] V fun r w'=>∃n:Int,r=.returned (.int .i64 n)/\zc0 s.2 (fun y=>y.1 == t) n/\Below w1.heap.size w1 w'):=fun V P2 hV hc =>(zeB s.2 _ (fun y=>y.1 == t) _ #[.pointer (some ⟨P2,0,none⟩)] V zmV (HT1.out V hV).waits (by rw[HLN.out];omega) fun W2 hW2 e _=>ztb e t P2 W2 ((hW2.cell (p:=⟨P2,0,none⟩) (World.block_lt_of_cell? V _ hc)).trans hc)).mono fun _ _ ⟨n,h1,h2,h3⟩=>⟨n,h1,h2,hV.trans (h3.mono hV.size)⟩;have HKC:Hid (∀V,Below w1.heap.size w1 V->V.cell? ⟨T,1,none⟩=some (.slice wad ln wq)/\V.cell? ⟨P,0,none⟩=some (.int .i64 t)):=fun V hV=>⟨by have:=(HT1.out V hV).c1;simpa using this,(hV.cell (p:=⟨P,0,none⟩) hP1).trans q0⟩
   go_upto_region 4 with(fail)
   go_region_held3 (fun w'=>w'.cell? ⟨T,1,none⟩=some (.slice wad ln wq)/\w'.cell? ⟨P,0,none⟩=some (.int .i64 t)) (first | exact⟨kd0,kd1⟩ | exact⟨ke0,ke1⟩ | exact⟨c1,q0⟩) (first | (go_at_call 225;refine HOF.out.mono ?_;rintro e w2 ⟨P2,rfl,hc2,hb2,hP2⟩;obtain⟨ke0,ke1⟩:=HKC.out w2 hb2) | (go_at_call 258;refine(HCF.out _ _ hb2 hc2).mono ?_;rintro e w3 ⟨n3,rfl,hf3,hb3⟩;obtain⟨kd0,kd1⟩:=HKC.out w3 hb3))
   all_goals
    have HB3:Hid (Below w1.heap.size w1 w3):=hb3;have HF3:Hid (zc0 s.2 (fun y=>y.1 == t) n3):=hf3;obtain⟨r0,r1,r2⟩:=HL1.out.below hb3 hP1;simp only at r0 r1 r2;clear hb2 hc2 hP2 hb3 ke0 ke1 c1 HOF HCF HKC q0 q1 q2 hf3
    go_upto_if 29 with fail
    go_cut [6]from 28 (fun s6 W=>W=w3/\∃aad an ac,s6=.slice aad an ac/\∀V,Below w3.heap.size w3 V->zai V (.slice aad an ac) (aheadL s.2 t))
    case first =>
     rcases HF3.out with⟨rfl,hno⟩ | ⟨k0,rfl,hk0,hyes,hno⟩
     ·have HAH:Hid (∀V,Below w3.heap.size w3 V->zai V (.slice wad ln wq) (aheadL s.2 t)):=fun V hV=>by
       rw[zug fun j hj=>by have:=List.any_eq_false.1 hno _ (zal hj);simpa using this];exact(HT1.out V (HB3.out.trans (hV.mono HB3.out.size))).waits
      clear hno;go_wp2_with fail
      go_meet
      case rel=>exact⟨rfl,wad,ln,wq,rfl,HAH.out⟩
     ·have how:w3.ownsRow (T+1) 269 3 (.slice wad ln wq) ln (flat s.2):=by have:=(HT1.out w3 HB3.out).ow;rw[HLN.out]at this;exact this
      have hk0n:k0<ln:=by rw[HLN.out]at hk0;exact hk0
      obtain⟨g,c2,hv2,-,-,-,-,-,-⟩:=zdj how HLN.out hk0n;simp only[Value.slice.injEq]at hv2;obtain⟨rfl,-,rfl⟩:=hv2;have HAH:Hid (∀V,Below w3.heap.size w3 V->zai V (.slice (some ⟨g,0,none⟩) k0 wq) (aheadL s.2 t)):=fun V hV=>by rw[zqV hk0 (fun j hj=>by simpa using zgN hno hj (by omega)) (by simpa using hyes)];refine zwH (base:=T+1) (e:=269) (n:=ln) ?_ HLN.out rfl (by omega);have:=(HT1.out V (HB3.out.trans (hV.mono HB3.out.size))).ow;rw[HLN.out]at this;exact this
      have hcap:ln<=wq:=by
       obtain⟨_,⟨hv,_⟩ | ⟨g3,c3,cur,hv,_,_,hnc,_⟩⟩:=how
       ·cases hv
       ·simp only[Value.slice.injEq]at hv;obtain⟨-,-,rfl⟩:=hv;exact hnc
      have hk1:(0:Int)<=(k0:Int):=by omega
      have hk2:(k0:Int)<=(wq:Int):=by omega
      clear hno hyes how;go_wp2_with fail
      go_meet
      case rel=>exact⟨rfl,_,_,_,rfl,HAH.out⟩
    case rest =>
     obtain⟨hwc,aad,an,ac,hu6,hah⟩:=hcut;rw[hwc];clear hwc;subst hu6;have HAH:Hid (∀V,Below w3.heap.size w3 V->zai V (.slice aad an ac) (aheadL s.2 t)):=hah;have HAL:Hid ((aheadL s.2 t).length<=900):=by show List.length _<=_;have h1:(aheadL s.2 t).length<=s.2.length:=(List.takeWhile_sublist _).length_le;rw[HLN.out]at h1;omega
     have HAO:Hid (∀y∈aheadL s.2 t,zak y=true):=fun y hy=>HOK.out.2 y ((List.takeWhile_sublist _).subset hy);clear hah HF3;go_wp2_with fail;refine(pOdds_any (t,i,m) w3).mono ?_;rintro e w4 ⟨rfl,hL4,hb4⟩;have hQ4:w3.heap.size<w4.heap.size:=hL4.lt;obtain⟨Q,hQ⟩:∃Q,Q=w3.heap.size:=⟨_,rfl⟩;rw[<-hQ]at hL4 hQ4 ⊢;have HQ0:Hid (Q=w3.heap.size):=hQ;clear hQ r0 r1 r2;go_wp2_with fail;rw[lstore_func _ _ _ _ _ _ _ (by simp)];obtain⟨V,hV⟩:∃V,V=w4.alloc (.cells #[.func (.func 275) #[] #[.pointer (some ⟨Q,0,none⟩)]] 298):=⟨_,rfl⟩;rw[<-hV];have v0:V.cell? ⟨w4.heap.size,0,none⟩=some (.func (.func 275) #[] #[.pointer (some ⟨Q,0,none⟩)]):=by rw[hV];simp
     have hbV:Below w4.heap.size w4 V:=by rw[hV];exact(Below.refl _ w4).alloc (Nat.le_refl _) _
     have HLV:Hid (za0 V Q (t,i,m)):=hL4.below hbV hQ4;have HB3V:Hid (Below w3.heap.size w3 V):=hb4.trans (hbV.mono hb4.size);have hOV:w4.heap.size<V.heap.size:=World.block_lt_of_cell? V _ v0;obtain⟨O,hO⟩:∃O,O=w4.heap.size:=⟨_,rfl⟩;rw[<-hO]at v0 hOV ⊢;have hQV:Q<V.heap.size:=HLV.out.lt;clear hV hbV hL4 hb4 hO hQ4;have HFN:Hid (∀(X:World) (b:Nat) (t2:Int),Below V.heap.size V X->X.cell? ⟨b,0,none⟩=some (.int .i64 t2)->∀e:Op3,Calls Tryz.prog 279 #[lkV e,.pointer (some ⟨b,0,none⟩),.pointer (some ⟨O,0,none⟩)] X fun r w'=>r=.returned (.bool (e.1 == t2 && zd3 e (t,i,m)))/\Below X.heap.size X w'):=fun X b t2 hX hc e =>zuy e (t,i,m) t2 b O Q X hc ((hX.cell (p:=⟨O,0,none⟩) hOV).trans v0) (HLV.out.below hX hQV);have HHB:Hid (∀(X:World) (b:Nat) (t2:Int),Below V.heap.size V X->X.cell? ⟨b,0,none⟩=some (.int .i64 t2)->Calls Tryz.prog 224 #[.slice ad n1 c,.func (.func 279) #[] #[.pointer (some ⟨b,0,none⟩),.pointer (some ⟨O,0,none⟩)]] X fun r w'=>r=.returned (.bool (s.1.any (fun y=>y.1 == t2 && zgM y (t,i,m))))/\Below X.heap.size X w'):=fun X b t2 hX hc=>by rw[<-zpH HOK.out.1 HLK.out];have h3X:=HB3V.out.trans (hX.mono HB3V.out.size);exact zby s.1 _ (fun y=>y.1 == t2 && zd3 y (t,i,m)) _ #[.pointer (some ⟨b,0,none⟩),.pointer (some ⟨O,0,none⟩)] X zjL (HT1.out X (HB3.out.trans (h3X.mono HB3.out.size))).held (by rw[HN1.out];omega) fun W2 hW2 e _=>HFN.out W2 b t2 (hX.trans (hW2.mono hX.size)) ((hW2.cell (p:=⟨b,0,none⟩) (World.block_lt_of_cell? X _ hc)).trans hc) e
     have HHA:Hid (∀(X:World) (b:Nat) (t2:Int),Below V.heap.size V X->X.cell? ⟨b,0,none⟩=some (.int .i64 t2)->Calls Tryz.prog 224 #[.slice aad an ac,.func (.func 279) #[] #[.pointer (some ⟨b,0,none⟩),.pointer (some ⟨O,0,none⟩)]] X fun r w'=>r=.returned (.bool ((aheadL s.2 t).any (fun y=>y.1 == t2 && zgM y (t,i,m))))/\Below X.heap.size X w'):=fun X b t2 hX hc=>by rw[<-zpH HAO.out HLK.out];have h3X:=HB3V.out.trans (hX.mono HB3V.out.size);exact zby (aheadL s.2 t) _ (fun y=>y.1 == t2 && zd3 y (t,i,m)) _ #[.pointer (some ⟨b,0,none⟩),.pointer (some ⟨O,0,none⟩)] X zjL (HAH.out X h3X) (by have:=HAL.out;omega) fun W2 hW2 e _=>HFN.out W2 b t2 (hX.trans (hW2.mono hX.size)) ((hW2.cell (p:=⟨b,0,none⟩) (World.block_lt_of_cell? X _ hc)).trans hc) e
     have HC0:Hid (∀X,Below V.heap.size V X->X.cell? ⟨T,0,none⟩=some (.slice ad n1 c)):=fun X hX=>(HT1.out X (HB3.out.trans ((HB3V.out.trans (hX.mono HB3V.out.size)).mono HB3.out.size))).c0;have HBWV:Hid (Below w.heap.size w V):=HB1.out.trans ((HB3.out.trans (HB3V.out.mono HB3.out.size)).mono HB1.out.size);have HFE:Hid (zmO s (t,i,m)=(za4 s (t,i,m) 6,0)):=by show zmO _ _=_;unfold zmO;rw[if_pos HLK.out,zya HOK.out.1 HOK.out.2]
     clear v0 HFN;go_wp2_with fail
     go_loopw [9,10,11] (fun v9 v10 _ wr=>∃(k b:Nat),k<=6/\v10=.pointer (some ⟨b,0,none⟩)/\zdE wr b ((k:Int)+1)/\zgO wr V.heap.size v9 (za4 s (t,i,m) k)/\(∀g,v9.ownBlock=some g->g≠b)/\Below V.heap.size V wr) (fun _ v10 _ wr=>7-(zoS wr v10).toNat)
     case atStart=>exact⟨0,_,by omega,rfl,by simpa using zfC V 1,zxC _ _,fun g hg=>by simp[Value.ownBlock]at hg,(Below.refl _ V).alloc (Nat.le_refl _) _⟩
     case round =>
      obtain⟨k,b,hk,rfl,hbox,hown,hne,hbel⟩:=hrel;have hcell:=hbox.cell;have hbl:=hbox.lt;have HBOX:Hid (zdE wr b ((k:Int)+1)):=hbox;have HOWN:Hid (zgO wr V.heap.size u9 (za4 s (t,i,m) k)):=hown;have HNE:Hid (∀g,Value.ownBlock u9=some g->g≠b):=hne;have HBEL:Hid (Below V.heap.size V wr):=hbel;have c0:=HC0.out wr hbel;have hwl:=zqF s (t,i,m) k;obtain⟨n,hn⟩:∃n,(za4 s (t,i,m) k).length=n:=⟨_,rfl⟩;have HN:Hid ((za4 s (t,i,m) k).length=n):=hn;rw[hn]at hwl;clear hbox hown hne hn;by_cases hk6:k<6
      ·have hk6':(k:Int)+1<=6:=by omega
       cases ha:s.1.any (fun y=>y.1 == (k:Int)+1 && zgM y (t,i,m))with
       | true =>
         have HQ:Hid (za4 s (t,i,m) (k+1)=za4 s (t,i,m) k++[(k:Int)+1]):=whom_yes (by unfold zlS;rw[ha];rfl);have HC:=HHB.out wr b _ hbel hcell;rw[ha]at HC;clear ha hbel;go_wp2_with fail;refine HC.mono ?_;rintro e wX ⟨rfl,hbX0⟩;clear HC;have hownX:=HOWN.out.below hbX0 (Nat.le_refl _);have HOX:Hid (wX.ownsRow V.heap.size 3 1 u9 n ((za4 s (t,i,m) k).map (Value.int .i64))):=by show World.ownsRow _ _ _ _ _ _ _;have:=hownX;unfold zgO at this;rw[HN.out]at this;exact this
         have HBX:Hid (Below V.heap.size V wX):=HBEL.out.trans (hbX0.mono HBEL.out.size);have hboxX:=HBOX.out.below hbX0 hbl;have HBOXX:Hid (zdE wX b ((k:Int)+1)):=hboxX;have kX:=hboxX.cell;have hblX:=hboxX.lt;have hVX:=HBX.out.size;clear hbX0 hownX hboxX;go_wp2_with (at_builtin;refine zbj _ rfl (.tmp 54) (.tmp 56) 24 rfl V.heap.size 3 i0 (.int .i64 0) 1 8 Tryz.underlying24 HI.out.1 HI.out.2.1 HI.out.2.2.1 HI.out.2.2.2 rfl (by decide) u9 n ((za4 s (t,i,m) k).map (Value.int .i64)) rfl (HOX.out.alloc _) ⟨wX.heap.size,0,none⟩ 1 1 [.int .i64 ((k:Int)+1)] rfl rfl (cell_one_new _ _ _) (by simp[Value.oneCell']) (by unfold maxLen;omega) (by omega) (by simp;omega) ?_;intro v7 w7 hown7 hgr7 hap7;have j7:w7.cell? ⟨b,0,none⟩=some (.int .i64 ((k:Int)+1)):=(zdE.cell (show zdE w7 b ((k:Int)+1)from(hgr7.block b (by simp;omega) (fun e=>HNE.out b e.symm rfl)).trans (HBOXX.out.alloc _))));have hB7:=(HBX.out.alloc hVX _).grown hgr7 (by simp;omega) (fun g hg=>(HOX.out.lt g hg).1);go_roundw
         case rel=>exact⟨k+1,w7.heap.size,by omega,rfl,by simpa using zfC w7 _,by unfold zgO;rw[HQ.out,List.length_append,HN.out,List.map_append];exact hown7.alloc _,fun g hg=>by have:=(hown7.lt g hg).2;omega,hB7.alloc hB7.size _⟩
         case measure=>simp[zoS,intOf,hcell];omega
       | false =>
         have HC:=HHB.out wr b _ hbel hcell;rw[ha]at HC;have HAF:=zdY ha;clear ha hbel;go_wp2_with fail;refine HC.mono ?_;rintro e w5 ⟨rfl,hb5⟩;clear HC;have c5:=(hb5.cell (p:=⟨b,0,none⟩) hbl).trans hcell;have HD:=HHA.out w5 b _ (HBEL.out.trans (hb5.mono HBEL.out.size)) c5;cases hb':(aheadL s.2 t).any (fun y=>y.1 == (k:Int)+1 && zgM y (t,i,m))with
         | true =>
           have HQ:Hid (za4 s (t,i,m) (k+1)=za4 s (t,i,m) k++[(k:Int)+1]):=whom_yes (by unfold zlS;rw[HAF.out];exact hb');rw[hb']at HD;clear hb' HAF c5;go_wp2_with fail;refine HD.mono ?_;rintro e wX ⟨rfl,hb6⟩;clear HD;have hbX0:Below wr.heap.size wr wX:=hb5.trans (hb6.mono hb5.size);clear hb5 hb6;have hownX:=HOWN.out.below hbX0 (Nat.le_refl _);have HOX:Hid (wX.ownsRow V.heap.size 3 1 u9 n ((za4 s (t,i,m) k).map (Value.int .i64))):=by show World.ownsRow _ _ _ _ _ _ _;have:=hownX;unfold zgO at this;rw[HN.out]at this;exact this
           have HBX:Hid (Below V.heap.size V wX):=HBEL.out.trans (hbX0.mono HBEL.out.size);have hboxX:=HBOX.out.below hbX0 hbl;have HBOXX:Hid (zdE wX b ((k:Int)+1)):=hboxX;have kX:=hboxX.cell;have hblX:=hboxX.lt;have hVX:=HBX.out.size;clear hbX0 hownX hboxX;go_wp2_with (at_builtin;refine zbj _ rfl (.tmp 54) (.tmp 56) 24 rfl V.heap.size 3 i0 (.int .i64 0) 1 8 Tryz.underlying24 HI.out.1 HI.out.2.1 HI.out.2.2.1 HI.out.2.2.2 rfl (by decide) u9 n ((za4 s (t,i,m) k).map (Value.int .i64)) rfl (HOX.out.alloc _) ⟨wX.heap.size,0,none⟩ 1 1 [.int .i64 ((k:Int)+1)] rfl rfl (cell_one_new _ _ _) (by simp[Value.oneCell']) (by unfold maxLen;omega) (by omega) (by simp;omega) ?_;intro v7 w7 hown7 hgr7 hap7;have j7:w7.cell? ⟨b,0,none⟩=some (.int .i64 ((k:Int)+1)):=(zdE.cell (show zdE w7 b ((k:Int)+1)from(hgr7.block b (by simp;omega) (fun e=>HNE.out b e.symm rfl)).trans (HBOXX.out.alloc _))));have hB7:=(HBX.out.alloc hVX _).grown hgr7 (by simp;omega) (fun g hg=>(HOX.out.lt g hg).1);go_roundw
           case rel=>exact⟨k+1,w7.heap.size,by omega,rfl,by simpa using zfC w7 _,by unfold zgO;rw[HQ.out,List.length_append,HN.out,List.map_append];exact hown7.alloc _,fun g hg=>by have:=(hown7.lt g hg).2;omega,hB7.alloc hB7.size _⟩
           case measure=>simp[zoS,intOf,hcell];omega
         | false =>
           have HQ:Hid (za4 s (t,i,m) (k+1)=za4 s (t,i,m) k):=whom_no (by unfold zlS;rw[HAF.out];exact hb');rw[hb']at HD;clear hb' HAF c5;go_wp2_with fail;refine HD.mono ?_;rintro e wX ⟨rfl,hb6⟩;clear HD;have hbX0:Below wr.heap.size wr wX:=hb5.trans (hb6.mono hb5.size);clear hb5 hb6;have hownX:=HOWN.out.below hbX0 (Nat.le_refl _);have HBX:Hid (Below V.heap.size V wX):=HBEL.out.trans (hbX0.mono HBEL.out.size);have hboxX:=HBOX.out.below hbX0 hbl;have kX:=hboxX.cell;have HOX:=zdY hownX;clear hbX0 hownX hboxX;go_wp2_with fail;go_roundw
           case rel=>exact⟨k+1,wX.heap.size,by omega,rfl,by simpa using zfC wX _,by rw[HQ.out];exact World.ownsRow.alloc HOX.out _,fun g hg=>by have:=(World.ownsRow.lt HOX.out g hg).2;omega,HBX.out.alloc HBX.out.size _⟩
           case measure=>simp[zoS,intOf,hcell];omega
      ·have hk6':¬(k:Int)+1<=6:=by omega
       obtain rfl:k=6:=by omega
       go_wp2_with fail;go_ret2;rw[HFE.out];exact⟨_,rfl,HOWN.out.less HBWV.out.size,HBWV.out.trans (HBEL.out.mono HBWV.out.size)⟩
theorem zw5(T:Nat)(cs:Array Value)(hv wv:Value)(s:za3)(x:Op3)(w:World)(h:zaK w 267 T 0 cs hv wv s)(hl1:s.1.length<=900)(hl2:s.2.length<=900)(hok1:∀y∈s.1,zak y=true)(hok2:∀y∈s.2,zak y=true):Calls Tryz.prog 263 #[.pointer (some ⟨T,0,none⟩),lkV x] w fun e w'=>∃v',e=.returned (.tuple #[v',zeH (zmO s x).2])/\zaf w' v' (zmO s x).1/\Below w.heap.size w w' :=(zpC T cs hv wv s x w h hl1 hl2 hok1 hok2).mono fun _ _ ⟨v',he,hi,hb⟩=>⟨v',he,hi.ints,hb⟩
end Go.Proofs.YthlhgiihngcobaaGreatDoor
namespace Go.Proofs.YthlhgiihngcobaaGreatDoor
open Go.RowKit
theorem zwR(w:World):Calls Tryz.prog 141 #[] w fun e w'=>e=.returned (.pointer (some ⟨w.heap.size,0,none⟩))/\zaK w' 267 w.heap.size 0 #[.slice none 0 0,.slice none 0 0] (.slice none 0 0) (.slice none 0 0) ([],[])/\Below w.heap.size w w':=by go_enter Tryz.func141,Tryz.ntmps141;go_wp2;go_ret;exact⟨rfl,⟨heap_alloc_new w _,rfl,rfl,World.ownsRow_nil _ _ _ _,World.ownsRow_nil _ _ _ _,fun g h _=>by simp[Value.ownBlock]at h⟩,(Below.refl _ w).alloc (Nat.le_refl _) _⟩
def zrw(w:World)(T:Nat)(F:Nat->Prop)(s:za3):Prop:=zgu s/\∃hv wv,zaK w 267 T 0 #[hv,wv] hv wv s/\∀k,F k↔zfX T hv wv k
theorem zrw.of_step{w w':World}{T:Nat}{F:Nat->Prop}{hv wv:Value}{s2:za3}(hF:∀k,F k↔zfX T hv wv k)(hst:TabStep w w' 267 T 0 #[hv,wv] hv wv s2)(hok:zgu s2):∃F',zrw w' T F' s2/\zac F w w'/\∀k,F' k->F k\/w.heap.size<=k:=by
 obtain⟨hv',wv',h1,h2,h3⟩:=hst;refine⟨zfX T hv' wv',⟨hok,hv',wv',h1,fun _=>Iff.rfl⟩,h2.mono fun k _ hk=>(hF k).2 hk,fun k hk=>?_⟩;rcases h3 k hk with h | h
 ·exact .inl ((hF k).2 h)
 ·exact .inr h
theorem locksQ:zvb zrw where
 stays:=fun {w w' T F s} G h ht hG=>by obtain⟨hok,hv,wv,h1,h2⟩:=h;exact⟨hok,hv,wv,h1.turn ht fun k hk=>hG k ((h2 k).2 hk),h2⟩
 lt:=fun {w T F s} h k hk=>by obtain⟨hok,hv,wv,h1,h2⟩:=h;exact(h1.foot_lt ((h2 k).1 hk)).2
 new:=fun w=>(zwR w).mono fun _ _ ⟨h1,h2,h3⟩=>⟨w.heap.size,zfX w.heap.size (.slice none 0 0) (.slice none 0 0),h1,⟨zsv,_,_,h2,fun _=>Iff.rfl⟩,h3,fun k hk=>by
  rcases hk with hk | hk | hk
  ·omega
  ·simp[Value.ownBlock]at hk
  ·simp[Value.ownBlock]at hk⟩
 ask:=fun w T F s x h hl1 hl2=>by obtain⟨hok,hv,wv,h1,h2⟩:=h;exact(zxv T _ hv wv s x w h1 (by omega) (by omega) hok.locks.1 hok.locks.2).mono fun _ _ ⟨he,hst⟩=>⟨he,zrw.of_step h2 hst (zsJ hok x)⟩
 whom:=fun w T F s x h hl1 hl2=>by obtain⟨hok,hv,wv,h1,h2⟩:=h;exact zw5 T _ hv wv s x w h1 (by omega) (by omega) hok.locks.1 hok.locks.2
end Go.Proofs.YthlhgiihngcobaaGreatDoor
namespace Go.Proofs.YthlhgiihngcobaaGreatDoor
open Go.RowKit
structure zce(g B:Nat)(w w':World):Prop where
 os:w'.os=w.os
 tape:w'.tape=w.tape
 output:w'.output=w.output
 size:w.heap.size<=w'.heap.size
 block:∀k,k<B->k≠g->w'.heap[k]? = w.heap[k]?
theorem zce.trans{g B:Nat}{w w1 w2:World}(h:zce g B w w1)(k:zce g B w1 w2):zce g B w w2 :=⟨k.os.trans h.os,k.tape.trans h.tape,k.output.trans h.output,Nat.le_trans h.size k.size,fun j h1 h2=>(k.block j h1 h2).trans (h.block j h1 h2)⟩
theorem zce.of_below{g B:Nat}{w w1:World}(h:Below B w w1):zce g B w w1:=⟨h.os,h.tape,h.output,h.size,fun k hk _=>h.block k hk⟩
theorem zce.turns{g:Nat}{w w1:World}(h:zce g w.heap.size w w1):zac (fun k=>some g=some k) w w1:=⟨h.os,h.tape,h.output,h.size,fun k hk hne=>h.block k hk (fun e=>hne (by rw[e]))⟩
theorem zce.setCell{g B:Nat}{w w1:World}(h:zce g B w w1)(k:Nat)(v:Value):zce g B w (w1.setCell ⟨g,k,none⟩ v) :=⟨h.os,h.tape,h.output,by simpa using h.size,fun j h1 h2=>(Below.heap_setCell w1 ⟨g,k,none⟩ v j h2).trans (h.block j h1 h2)⟩
theorem zce.setCells{g B:Nat}{w:World}:∀(vs:List Value) (o:Nat) {w1:World},zce g B w w1->zce g B w (w1.setCells g o vs)
 | [],_,_,h=>h
 | v::r,o,_,h=>zce.setCells r (o+1) (h.setCell o v)
def ziz(w:World)(g n c:Nat)(d:Nat->Op3):Prop:=∃cur:Array Value,w.heap[g]? = some (.cells cur 269 (0,0))/\cur.size=c/\n*3<=c/\∀k,k<n->cur[k*3]? = some (.int .i64 (d k).1)/\cur[k*3+1]? = some (.int .i64 (d k).2.1)/\cur[k*3+2]? = some (.int .i64 (d k).2.2)
theorem ziz.cell{w:World}{g n c:Nat}{d:Nat->Op3}(h:ziz w g n c d){k:Nat}(hk:k<n){t a i:Int}(e:d k=(t,a,i)):w.cell? ⟨g,k*3,none⟩=some (.int .i64 t)/\w.cell? ⟨g,k*3+1,none⟩=some (.int .i64 a)/\w.cell? ⟨g,k*3+2,none⟩=some (.int .i64 i):=by obtain⟨cur,h1,-,-,h2⟩:=h;rw[cell_of_row w g _ _ _ _ h1,cell_of_row w g _ _ _ _ h1,cell_of_row w g _ _ _ _ h1];have:=h2 k hk;rw[e]at this;exact this
theorem ziz.thaw{w:World}{g n c:Nat}{d:Nat->Op3}(h:ziz w g n c d)(k:Nat):w.frozen? ⟨g,k,none⟩=false:=by obtain⟨cur,h1,h2⟩:=h;simp[World.frozen?,h1]
theorem ziz.lt{w:World}{g n c:Nat}{d:Nat->Op3}(h:ziz w g n c d):g<w.heap.size:=by obtain⟨cur,h1,h2⟩:=h;exact(Array.getElem?_eq_some_iff.1 h1).1
theorem ziz.same{w w':World}{g n c:Nat}{d:Nat->Op3}(h:ziz w g n c d)(hb:w'.heap[g]? = w.heap[g]?):ziz w' g n c d:=by obtain⟨cur,h1,h2⟩:=h;exact⟨cur,hb.trans h1,h2⟩
def zAA(d:Nat->Op3)(i:Nat)(p:Op3):Nat->Op3:=fun k=>if k=i then p else d k
theorem ziz.set{w:World}{g n c:Nat}{d:Nat->Op3}(h:ziz w g n c d){j:Nat}(hj:j<n)(t a i:Int):ziz (((w.setCell ⟨g,j*3,none⟩ (.int .i64 t)).setCell ⟨g,j*3+1,none⟩ (.int .i64 a)).setCell ⟨g,j*3+2,none⟩ (.int .i64 i)) g n c (zAA d j (t,a,i)):=by
 obtain⟨cur,h1,hc,hn,h2⟩:=h;refine⟨((cur.setIfInBounds (j*3) (.int .i64 t)).setIfInBounds (j*3+1) (.int .i64 a)).setIfInBounds (j*3+2) (.int .i64 i),?_,by simpa using hc,hn,fun k hk=>?_⟩
 ·unfold World.setCell;simp[Array.getElem?_modify,h1]
 ·obtain⟨k0,k1,k2⟩:=h2 k hk;unfold zAA;simp only[Array.getElem?_setIfInBounds,Array.size_setIfInBounds];by_cases e:k=j
  ·subst e;refine⟨?_,?_,?_⟩
   ·rw[if_pos rfl,if_neg (by omega),if_neg (by omega),if_pos rfl,if_pos (by omega)]
   ·rw[if_pos rfl,if_neg (by omega),if_pos rfl,if_pos (by omega)]
   ·rw[if_pos rfl,if_pos rfl,if_pos (by omega)]
  ·refine⟨?_,?_,?_⟩
   ·rw[if_neg e,if_neg (by omega),if_neg (by omega),if_neg (by omega)];exact k0
   ·rw[if_neg e,if_neg (by omega),if_neg (by omega),if_neg (by omega)];exact k1
   ·rw[if_neg e,if_neg (by omega),if_neg (by omega),if_neg (by omega)];exact k2
theorem ziz.own{w:World}{g n c base cap:Nat}{d:Nat->Op3}(h:ziz w g n c d){l:List Op3}(hl:l.length<=n)(hd:∀k,k<l.length->d k=opAt l k)(hc:c=cap*3)(hcm:cap<=maxLen)(hb:base<=g):w.ownsRow base 269 3 (.slice (some ⟨g,0,none⟩) l.length cap) l.length (flat l):=by
 obtain⟨cur,h1,hs,hn,h2⟩:=h;refine⟨by rw[zbr],.inr ⟨g,cap,cur,rfl,hb,h1,by omega,hcm,by rw[hs,hc],?_⟩⟩;refine List.ext_getElem? fun j=>?_;rw[List.getElem?_take];by_cases hj:j<l.length*3
 ·rw[if_pos hj];obtain⟨f0,f1,f2⟩:=zgw l (j / 3) (by omega);obtain⟨g0,g1,g2⟩:=h2 (j / 3) (by omega);rw[hd (j / 3) (by omega)]at g0 g1 g2;rcases(show j=j / 3*3\/j=j / 3*3+1\/j=j / 3*3+2 by omega)with e | e | e
  ·rw[<-e]at g0 f0;rw[f0];simpa[opAt]using g0
  ·rw[<-e]at g1 f1;rw[f1];simpa[opAt]using g1
  ·rw[<-e]at g2 f2;rw[f2];simpa[opAt]using g2
 ·rw[if_neg hj,List.getElem?_eq_none (by rw[zbr];omega)]
theorem zgF{g:Nat}{T:TypeId}:∀(vs:List Value) (o:Nat) {w:World} {cur:Array Value},w.heap[g]? = some (.cells cur T (0,0))->∃cur2:Array Value,(w.setCells g o vs).heap[g]? = some (.cells cur2 T (0,0))/\cur2.size=cur.size/\∀k,k<o->cur2[k]? = cur[k]?
 | [],_,_,cur,h=>⟨cur,h,rfl,fun _ _=>rfl⟩
 | v::r,o,w,cur,h=>by obtain⟨c2,h1,h2,h3⟩:=zgF (g:=g) (T:=T) r (o+1) (w:=w.setCell ⟨g,o,none⟩ v) (cur:=cur.setIfInBounds o v) (by unfold World.setCell;simp[Array.getElem?_modify,h]);exact⟨c2,h1,by rw[h2];simp,fun k hk=>by rw[h3 k (by omega),Array.getElem?_setIfInBounds,if_neg (by omega)]⟩
theorem ziz.cut{w:World}{g n c:Nat}{d:Nat->Op3}(h:ziz w g n c d){m:Nat}(hm:m<=n)(zs:List Value):ziz (w.setCells g (m*3) zs) g m c d:=by obtain⟨cur,h1,hs,hn,h2⟩:=h;obtain⟨c2,k1,k2,k3⟩:=zgF (g:=g) (T:=269) zs (m*3) h1;refine⟨c2,k1,by rw[k2,hs],by omega,fun k hk=>?_⟩;rw[k3 _ (by omega),k3 _ (by omega),k3 _ (by omega)];exact h2 k (by omega)
def zpw(l:List Op3)(q:Op3->Bool)(j:Nat):List Op3:=(l.take j).filter fun e=>!q e
theorem zvX{l:List Op3}{q:Op3->Bool}{j:Nat}{e:Op3}(hj:j<l.length)(he:opAt l j=e)(h:q e=false):zpw l q (j+1)=zpw l q j++[e]:=by
 unfold zpw;have:l[j]=e:=by rw[<-he];simp[opAt,List.getD,List.getElem?_eq_getElem hj]
 rw[List.take_succ_eq_append_getElem hj,List.filter_append,this];simp[h]
theorem zt5{l:List Op3}{q:Op3->Bool}{j:Nat}{e:Op3}(hj:j<l.length)(he:opAt l j=e)(h:q e=true):zpw l q (j+1)=zpw l q j:=by
 unfold zpw;have:l[j]=e:=by rw[<-he];simp[opAt,List.getD,List.getElem?_eq_getElem hj]
 rw[List.take_succ_eq_append_getElem hj,List.filter_append,this];simp[h]
theorem zv7{l:List Op3}{q:Op3->Bool}{j:Nat}(h:(l.take j).any q=false):zpw l q j=l.take j:=by unfold zpw;refine List.filter_eq_self.2 fun e he=>?_;have:=List.any_eq_false.1 h e he;simpa using this
theorem zps(l:List Op3)(q:Op3->Bool):zpw l q l.length=l.filter fun e=>!q e:=by unfold zpw;rw[List.take_length]
structure zfH(l:List Op3)(q:Op3->Bool)(i j:Nat)(d:Nat->Op3):Prop where
 lt:i<j
 len:(zpw l q j).length=i
 low:∀k,k<i->d k=opAt (zpw l q j) k
 high:∀k,j<=k->k<l.length->d k=opAt l k
theorem zfH.start{l:List Op3}{q:Op3->Bool}{k:Nat}(hk:k<l.length)(hq:q (opAt l k)=true)(h:(l.take k).any q=false):zfH l q k (k+1) (opAt l):=by have e:=(zt5 hk rfl hq).trans (zv7 h);refine⟨by omega,by rw[e,List.length_take];omega,fun i hi=>?_,fun _ _ _=>rfl⟩;rw[e];simp[opAt,List.getD,hi]
theorem zfH.keep{l:List Op3}{q:Op3->Bool}{i j:Nat}{d:Nat->Op3}{e:Op3}(h:zfH l q i j d)(hj:j<l.length)(he:opAt l j=e)(hq:q e=false):zfH l q (i+1) (j+1) (zAA d i e):=by
 have h1:=zvX hj he hq;refine⟨by have:=h.lt;omega,by rw[h1,List.length_append,h.len];rfl,fun k hk=>?_,fun k hk hl=>?_⟩
 ·rw[h1];unfold zAA;by_cases e1:k=i
  ·rw[if_pos e1,e1];simp[opAt,List.getD,<-h.len]
  ·rw[if_neg e1,h.low k (by omega)];simp[opAt,List.getD,List.getElem?_append_left (show k<(zpw l q j).length by rw[h.len];omega)]
 ·unfold zAA;rw[if_neg (by have:=h.lt;omega),h.high k (by omega) hl]
theorem zfH.skip{l:List Op3}{q:Op3->Bool}{i j:Nat}{d:Nat->Op3}{e:Op3}(h:zfH l q i j d)(hj:j<l.length)(he:opAt l j=e)(hq:q e=true):zfH l q i (j+1) d:=by have h1:=zt5 hj he hq;exact⟨by have:=h.lt;omega,by rw[h1];exact h.len,fun k hk=>by rw[h1];exact h.low k hk,fun k hk hl=>h.high k (by omega) hl⟩
theorem zhq(P:Program)(w:World)(t e ty:TypeId)(ht:P.underlying t=some (.slice e))(hv:∀w,(zeroValue e).run P w=.ok (.agg #[.int .i64 0,.int .i64 0,.int .i64 0]) w)(b o n c:Nat)(hn:0<n)
  (hc:∀j,j<n*3->(w.cell? ⟨b,o+j,none⟩).isSome=true) (hf:∀j,j<n*3->w.frozen? ⟨b,o+j,none⟩=false) :
  ∃zs,(Builtin.clear_ #[t] ty #[.slice (some ⟨b,o,none⟩) n c]).run P w=.ok (.tuple #[]) (w.setCells b o zs):=by
 have hz:∀v∈(Builtin.zeroCells #[.int .i64 0,.int .i64 0,.int .i64 0] n).toList,v.oneCell'=true:=by
  intro v hv';simp only[Builtin.zeroCells,Array.toList_map,List.mem_map]at hv';obtain⟨k,_,rfl⟩:=hv';have:k % 3=0\/k % 3=1\/k % 3=2:=by omega
  rcases this with e | e | e <;> simp[e] <;> rfl
 have hlen:(Builtin.zeroCells #[.int .i64 0,.int .i64 0,.int .i64 0] n).toList.length=n*3:=by simp[Builtin.zeroCells]
 have hst:=run_storeCells_cells (P:=P) b o (Builtin.zeroCells #[.int .i64 0,.int .i64 0,.int .i64 0] n).toList 0 w (by rw[hlen];simpa using hc) (by rw[hlen];simpa using hf) hz;simp only[Nat.add_zero]at hst;obtain⟨m,rfl⟩:∃m,n=m+1:=⟨n-1,by omega⟩;exact⟨(Builtin.zeroCells #[.int .i64 0,.int .i64 0,.int .i64 0] (m+1)).toList,by simp[Builtin.clear_,run_underlying ht,hv,hst,Value.cells]⟩
theorem zsR(w:World):(zeroValue 269).run Tryz.prog w=.ok (.agg #[.int .i64 0,.int .i64 0,.int .i64 0]) w:=Tryz.zeroValue269 w
theorem znp(l:List Op3)(v:Value)(q:Op3->Bool)(N base:Nat)(C:Array Value)(w:World)(hcall:∀(args:Array Value) (W:World),(callFunc N args).run Tryz.prog W=.ok (.enter N args) W)(hown:w.ownsRow base 269 3 v l.length (flat l))(hlen:l.length<=400)
  (hp:∀W:World,zac (fun k=>v.ownBlock=some k) w W->∀e∈l,Calls Tryz.prog N (#[lkV e]++C) W fun r w'=>r=.returned (.bool (q e))/\Below W.heap.size W w') :
  Calls Tryz.prog 257 #[v,.func (.func N) #[] C] w fun r w'=>∃v',r=.returned v'/\w'.ownsRow base 269 3 v' (l.filter fun e=>!q e).length (flat (l.filter fun e=>!q e))/\zac (fun k=>v.ownBlock=some k) w w'/\∀g,v'.ownBlock=some g->v.ownBlock=some g:=by
 have hI:=zbH hown rfl;have HIX:Hid (Calls Tryz.prog 258 #[v,.func (.func N) #[] C] w fun r w'=>∃n:Int,r=.returned (.int .i64 n)/\zc0 l q n/\Below w.heap.size w w'):=zeB l v q N C w hcall hI (by omega) fun W hW e he=>hp W (zac.of_below hW) e he;have HP:Hid (∀W:World,zac (fun k=>v.ownBlock=some k) w W->∀e∈l,Calls Tryz.prog N (#[lkV e]++C) W fun r w'=>r=.returned (.bool (q e))/\Below W.heap.size W w'):=hp;have HOWN:Hid (w.ownsRow base 269 3 v l.length (flat l)):=hown;clear hI hp hown;go_enter Tryz.func257,Tryz.ntmps257;go_wp2_with fail;refine HIX.out.mono ?_;rintro e w1 ⟨n,rfl,hfirst,hb1⟩;have HB1:Hid (Below w.heap.size w w1):=hb1;clear hb1;rcases hfirst with⟨rfl,hno⟩ | ⟨k0,rfl,hk0,hq0,hno⟩
 ·have HF:Hid ((l.filter fun e=>!q e)=l):=List.filter_eq_self.2 fun e he=>by simpa using List.any_eq_false.1 hno e he
  clear hno;go_wp2_with fail;go_ret;exact⟨_,rfl,by rw[HF.out];exact(zac.of_below (F:=fun _=>False) HB1.out).own HOWN.out fun _ _ hf=>hf,zac.of_below HB1.out,fun _ hg=>hg⟩
 ·obtain⟨-,⟨rfl,hz⟩ | ⟨g,cap,cur,rfl,hbase,hg,hcap,hcm,hcs,htk⟩⟩:=HOWN.out
  ·omega
  ·have HH:Hid (zfH l q k0 (k0+1) (opAt l)):=zfH.start hk0 hq0 hno;have HR1:Hid (ziz w1 g l.length (cap*3) (opAt l)):=by refine⟨cur,(HB1.out.block g (Array.getElem?_eq_some_iff.1 hg).1).trans hg,hcs,by omega,fun k hk=>?_⟩;obtain⟨f0,f1,f2⟩:=zgw l k hk;rw[<-htk]at f0 f1 f2;rw[List.getElem?_take]at f0 f1 f2;rw[if_pos (by omega)]at f0 f1 f2;simpa[opAt]using And.intro f0 (And.intro f1 f2)
   have HS1:Hid (zce g w.heap.size w w1):=zce.of_below HB1.out;have hk0':((k0:Int) == -1)=false:=beq_eq_false_iff_ne.2 (by omega);have hgw:g<w.heap.size:=(Array.getElem?_eq_some_iff.1 hg).1;have HCB:Hid (base<=g/\cap<=maxLen):=⟨hbase,hcm⟩;clear hno hq0 hg hcs htk hbase HB1 HIX HOWN;go_wp2_with fail
   go_loopw [5,6,7] (fun v5 v6 _ wr=>∃(i j:Nat) (d:Nat->Op3),v5=.int .i64 i/\v6=.int .i64 j/\j<=l.length/\zfH l q i j d/\ziz wr g l.length (cap*3) d/\zce g w.heap.size w wr) (fun _ v6 _ _=>l.length-(intOf v6).toNat)
   case atStart=>exact⟨k0,k0+1,_,rfl,by go_num,by omega,HH.out,HR1.out,HS1.out⟩
   case round =>
    obtain⟨i,j,d,rfl,rfl,hj,hhalf,hrow,hsole⟩:=hrel;have HHF:Hid (zfH l q i j d):=hhalf;have HRW:Hid (ziz wr g l.length (cap*3) d):=hrow;have HSW:Hid (zce g w.heap.size w wr):=hsole;have hij:=hhalf.lt;have hgr:=hrow.lt;clear hhalf hrow hsole;by_cases hlt:j<l.length
    ·have hlt':(j:Int)<(l.length:Int):=by omega
     have hil:(i:Int)<(l.length:Int):=by omega
     obtain⟨⟨t,a,m⟩,ho⟩:∃o:Op3,opAt l j=o:=⟨_,rfl⟩;obtain⟨⟨t2,a2,m2⟩,ho2⟩:∃o:Op3,d i=o:=⟨_,rfl⟩;obtain⟨c0,c1,c2⟩:=HRW.out.cell hlt ((HHF.out.high j (Nat.le_refl _) hlt).trans ho);have HG:Hid (opAt l j=(t,a,m)):=ho;have HG2:Hid (d i=(t2,a2,m2)):=ho2;have HM:Hid ((t,a,m)∈l):=by show(t,a,m)∈l;rw[<-ho];exact zal hlt
     clear ho ho2
     go_upto_region 8 with(fail)
     obtain⟨W,hW⟩:∃W,W=wr.alloc (.cells #[.int .i64 t,.int .i64 a,.int .i64 m] 269):=⟨_,rfl⟩;rw[<-hW];obtain⟨P,hP⟩:∃P,P=wr.heap.size:=⟨_,rfl⟩;rw[<-hP];have p0:W.cell? ⟨P,0,none⟩=some (.int .i64 t):=by rw[hW,hP];simp
     have p1:W.cell? ⟨P,1,none⟩=some (.int .i64 a):=by rw[hW,hP];simp
     have p2:W.cell? ⟨P,2,none⟩=some (.int .i64 m):=by rw[hW,hP];simp
     have hbw:Below wr.heap.size wr W:=by rw[hW];exact(Below.refl _ wr).alloc (Nat.le_refl _) _
     have HR2:Hid (ziz W g l.length (cap*3) d):=HRW.out.same (hbw.block g hgr);have HS2:Hid (zce g w.heap.size w W):=HSW.out.trans (zce.of_below (hbw.mono HSW.out.size));have hgP:g<P:=by omega
     have hPW:P<W.heap.size:=World.block_lt_of_cell? W _ p0;clear hW hP hbw HRW HSW c0 c1 c2 hgr;cases hq:q (t,a,m)with
     | false =>
       have HK:Hid (zfH l q (i+1) (j+1) (zAA d i (t,a,m))):=HHF.out.keep hlt HG.out hq;have HC:Hid (Calls Tryz.prog N (#[.agg #[.int .i64 t,.int .i64 a,.int .i64 m]]++C) W fun r w'=>r=.returned (.bool false)/\Below W.heap.size W w'):=hq ▸HP.out W HS2.out.turns _ HM.out;clear hq;go_wp2_with fail;refine HC.out.mono ?_;rintro e w2 ⟨rfl,hb2⟩;have r0:=(hb2.cell (p:=⟨P,0,none⟩) hPW).trans p0;have r1:=(hb2.cell (p:=⟨P,1,none⟩) hPW).trans p1;have r2:=(hb2.cell (p:=⟨P,2,none⟩) hPW).trans p2;have HR3:Hid (ziz w2 g l.length (cap*3) d):=HR2.out.same (hb2.block g (by omega));have HS3:Hid (zce g w.heap.size w w2):=HS2.out.trans (zce.of_below (hb2.mono HS2.out.size));obtain⟨d0,d1,d2⟩:=HR3.out.cell (show i<l.length by omega) HG2.out;have y0:=HR3.out.thaw (i*3);have y1:=HR3.out.thaw (i*3+1);have y2:=HR3.out.thaw (i*3+2);clear hb2 p0 p1 p2;go_wp2_with fail;go_roundw
       case rel=>exact⟨i+1,j+1,_,by go_num,by go_num,by omega,HK.out,HR3.out.set (by omega) t a m,((HS3.out.setCell _ _).setCell _ _).setCell _ _⟩
       case measure=>simp[intOf];omega
     | true =>
       have HK:Hid (zfH l q i (j+1) d):=HHF.out.skip hlt HG.out hq;have HC:Hid (Calls Tryz.prog N (#[.agg #[.int .i64 t,.int .i64 a,.int .i64 m]]++C) W fun r w'=>r=.returned (.bool true)/\Below W.heap.size W w'):=hq ▸HP.out W HS2.out.turns _ HM.out;clear hq;go_wp2_with fail;refine HC.out.mono ?_;rintro e w2 ⟨rfl,hb2⟩;have HR3:Hid (ziz w2 g l.length (cap*3) d):=HR2.out.same (hb2.block g (by omega));have HS3:Hid (zce g w.heap.size w w2):=HS2.out.trans (zce.of_below (hb2.mono HS2.out.size));clear hb2 p0 p1 p2;go_wp2_with fail;go_roundw
       case rel=>exact⟨i,j+1,_,by go_num,by go_num,by omega,HK.out,HR3.out,HS3.out⟩
       case measure=>simp[intOf];omega
    ·have hlt':¬(j:Int)<(l.length:Int):=by omega
     obtain rfl:j=l.length:=by omega
     obtain⟨zs,hcl⟩:=zhq Tryz.prog wr 265 269 0 Tryz.underlying265 zsR g (i*3) (l.length-i) (cap-i) (by omega)
      (fun m hm=>by
       obtain⟨⟨x1,x2,x3⟩,hx⟩:∃o:Op3,d (i+m / 3)=o:=⟨_,rfl⟩;obtain⟨b0,b1,b2⟩:=HRW.out.cell (show i+m / 3<l.length by omega) hx;rcases(show i*3+m=(i+m / 3)*3\/i*3+m=(i+m / 3)*3+1\/i*3+m=(i+m / 3)*3+2 by omega)with e | e | e <;> rw[e]
       ·rw[b0];rfl
       ·rw[b1];rfl
       ·rw[b2];rfl)
      (fun m _=>HRW.out.thaw _)
     have HCL:Hid ((Builtin.clear_ #[265] 0 #[.slice (some ⟨g,i*3,none⟩) (l.length-i) (cap-i)]).run Tryz.prog wr=.ok (.tuple #[]) (wr.setCells g (i*3) zs)):=hcl;have HE:Hid ((wr.setCells g (i*3) zs).ownsRow base 269 3 (.slice (some ⟨g,0,none⟩) i cap) (l.filter fun e=>!q e).length (flat (l.filter fun e=>!q e))):=by show World.ownsRow _ _ _ _ _ _ _;have h1:=(HRW.out.cut (m:=i) (by omega) zs).own (base:=base) (cap:=cap) (l:=zpw l q l.length) (by rw[HHF.out.len];exact Nat.le_refl _) (fun k hk=>HHF.out.low k (by rw[HHF.out.len]at hk;exact hk)) rfl HCB.out.2 HCB.out.1;rw[HHF.out.len,zps]at h1;rw[show(l.filter fun e=>!q e).length=i by rw[<-zps];exact HHF.out.len];exact h1
     have hS:zac (fun k=>some g=some k) w (wr.setCells g (i*3) zs):=(zce.setCells zs (i*3) HSW.out).turns;have HS:Hid (zac (fun k=>some g=some k) w (wr.setCells g (i*3) zs)):=hS;have hil:(i:Int)<=(l.length:Int):=by omega
     have hic:(i:Int)<=(cap:Int):=by omega
     have hne:¬cap=i:=by omega
     clear hS HCL;go_wp2;go_ret;exact⟨_,rfl,HE.out,HS.out,fun _ hg=>hg⟩
end Go.Proofs.YthlhgiihngcobaaGreatDoor
namespace Go.Proofs.YthlhgiihngcobaaGreatDoor
open Go.RowKit
theorem zmX{s:za3 × List Op3}{l:List Op3}{k:Nat}(hk:k<l.length):grants s (l.take (k+1))=grant (grants s (l.take k)) (opAt l k):=by rw[ztl hk];unfold grants;rw[List.foldl_append];rfl
end Go.Proofs.YthlhgiihngcobaaGreatDoor
