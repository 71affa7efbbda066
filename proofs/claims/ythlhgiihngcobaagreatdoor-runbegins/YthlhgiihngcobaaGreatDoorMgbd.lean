/-
  PROVED HERE: faces.Of tells whether a right list is recoverable, cautious, strict and rigorous, as said op by op; lanelaw3.IllsFaces answers true, of any ops, over whatever keeps IllsOfC, IllsFirstC and FacesC; package faces' Of answers in one sentence, right history or not (FacesC); plain facts, with no word of the program.
  Conditions: none but those that each theorem's own premises say.
-/
import Derived.Test.YthlhgiihngcobaaGreatDoorMgbc
import Derived.Test.YthlhgiihngcobaaGreatDoorMgal
import Derived.Test.YthlhgiihngcobaaGreatDoorMgah
import Derived.Test.YthlhgiihngcobaaGreatDoorMgaf
import Derived.Deep.Cut
set_option maxHeartbeats 32000000
set_option maxRecDepth 100000
namespace Go.Proofs.YthlhgiihngcobaaGreatDoor
open Go.RowKit
theorem zwX(w:World)(cs:Array Value)(T:TypeId):(w.alloc (.cells cs T)).heap[w.heap.size]? = some (.cells cs T (0,0)):=by unfold World.alloc;simp
theorem zqT{c:Code}{Q:Exit->Act->World->Prop}{a:Act}(w:World)(Z:Array Value)(f:Nat->Int × Int)(hZ:cells14 (fun _=>(0,0))=Z)(h:∀W,zaw W w.heap.size f->Below w.heap.size w W->Code.wp Tryz.prog c Q a W):Code.wp Tryz.prog c Q a ((w.alloc (.cells Z 121)).setRow w.heap.size (cells14 f)):=by subst hZ;exact h _ (setRow_heap _ _ _ _ _ _ (zdG w _)) (below_setRow ((Below.refl _ w).alloc (Nat.le_refl _) _) (Nat.le_refl _) _)
theorem fstore_func{P:Program}(w:World)(f:Fn)(ts cs:Array Value)(old:Value)(T:TypeId)(n:Nat)(hn:n=w.heap.size):(store ⟨n,0,none⟩ (.func f ts cs)).run P (w.alloc (.cells #[old] T))=.ok () (w.alloc (.cells #[.func f ts cs] T)):=by subst hn;rw[run_store _ _ _ _ _ rfl];simp[World.setCell_alloc_new]
theorem zeK{P:Program}{ops:Array Oper}{o:Oper}{a:Act}{w:World}{K:Act->World->Prop}{Q:Exit->Act->World->Prop}{E:Prop}
  (hgd:o.guard=none) (N:FuncId) (x y:Operand) (T:Array TypeId) (ho:o.op=.call { callee:=.value (.func N),args:=#[x,y],argTypes:=T })
  (v1:Value) (hx:a.eval x=v1) (v2:Value) (hy:a.eval y=v2) (hent:∀args W,(callFunc N args).run P W=.ok (.enter N args) W) (v:Value) (R:World->Prop)
  (hc:Calls P N #[v1,v2] w fun e w'=>e=.returned v/\R w') (h:∀w',R w'->K (a.put o.dst v) w') :
  if Region.wanted o (yielded ops a.tmps)=true then Oper.wp P o a w K Q else E :=
 zlw hgd N #[x,y] T ho #[v1,v2] (by simp[hx,hy]) hent v R hc h
theorem zBa(l:List Op3)(ad:Option Addr)(cap:Nat)(w:World)(h:zai w (.slice ad l.length cap) l)(hcap:l.length<=cap)(hc:(chk l).2=0):Calls Tryz.prog 25 #[.slice ad l.length cap] w fun e w'=>e=.returned (.tuple #[.agg #[.bool (zwB l),.bool (zxz l),.bool (zw1 l),.bool (zyd l)],.nilIface])/\Below w.heap.size w w':=by
 have hl:=zaQ hc;have hop:=chk_ops hc;have hcalm:=((zbq l).1 hc).2.2;have hR1:=zvY hcalm hop;have hR2:=zxy hcalm hop;have hR3:=zvm hcalm hop;have hR4:=zun hcalm hop;have hsrc:=zzt hcalm hop l.length (Nat.le_refl _);obtain⟨f,hf⟩:∃f,zdg l l.length=f:=⟨_,rfl⟩;rw[hf]at hR1 hR2 hR3 hR4 hsrc;have HI:Hid (∀W,Below w.heap.size w W->zai W (.slice ad l.length cap) l):=fun W hW=>h.below hW (Nat.le_refl _);have HPO:Hid (∀W,Below w.heap.size w W->Calls Tryz.prog 60 #[.slice ad l.length cap] W fun e w'=>∃v',e=.returned (.tuple #[v',.nilIface])/\zaj w' v' (pairsL l)/\Below W.heap.size W w'):=fun W hW=>zv9 l _ W (HI.out W hW) hc;have HEO:Hid (∀W,Below w.heap.size w W->Calls Tryz.prog 61 #[.slice ad l.length cap] W fun e w'=>e=.returned (.agg (cells14 f))/\Below W.heap.size W w'):=fun W hW=>by have:=zrM l _ W (HI.out W hW) hl hop;rw[hf]at this;exact this
 have HSO:Hid (∀W,Below w.heap.size w W->Calls Tryz.prog 63 #[.slice ad l.length cap,.agg (cells14 f)] W fun e w'=>∃v',e=.returned v'/\w'.ownsRow (W.heap.size+1) 126 2 v' (zeQ l l.length).length (flatE (zeQ l l.length))/\Below W.heap.size W w'):=fun W hW=>by have:=znk f l ad cap W (HI.out W hW) hcap hl hop;rw[hsrc]at this;exact this
 have HOP:Hid (∀o∈l,isOpB o=true):=hop;have hents:∀(args:Array Value) (W:World),(callFunc 71 args).run Tryz.prog W=.ok (.enter 71 args) W:=fun _ _=>by kernel_rfl
 have hente:∀(args:Array Value) (W:World),(callFunc 72 args).run Tryz.prog W=.ok (.enter 72 args) W:=fun _ _=>by kernel_rfl
 have HENS:Hid (∀(args:Array Value) (W:World),(callFunc 71 args).run Tryz.prog W=.ok (.enter 71 args) W):=hents;have HENE:Hid (∀(args:Array Value) (W:World),(callFunc 72 args).run Tryz.prog W=.ok (.enter 72 args) W):=hente;have HRES:Hid ((!(zeT l).any (zeV l f))=zwB l/\(!(zeT l).any (zhu f))=zxz l/\(!(pairsL l).any (ziU l f))=zw1 l/\(!(pairsL l).any (zgo l f))=zyd l):=⟨hR1,hR2,hR3,hR4⟩;have HPL:Hid ((pairsL l).length<=1600):=zex l hl;clear h hc hop hcalm hR1 hR2 hR3 hR4 hsrc hf hents hente;go_enter Tryz.func25,Tryz.ntmps25
 go_upto_region 1 with(fail)
 obtain⟨W,hW⟩:∃W,W=(w.alloc (.cells #[.slice ad l.length cap] 28)).alloc (.cells #[.bool false,.bool false,.bool false,.bool false] 62):=⟨_,rfl⟩;have hs1:(w.alloc (.cells #[.slice ad l.length cap] 28)).heap.size=w.heap.size+1:=by simp
 have HF:Hid (zbG W (w.heap.size+1) false false false false):=by show zbG W _ _ _ _ _;rw[hW,<-hs1];exact zpm _ _ _ _ _
 have p0:W.cell? ⟨w.heap.size,0,none⟩=some (.slice ad l.length cap):=by rw[hW];exact zdi _ (zdb w _ _)
 have HB:Hid (Below w.heap.size w W):=by show Below _ _ _;rw[hW];exact((Below.refl _ w).alloc (Nat.le_refl _) _).alloc (by simp) _
 rw[<-hW];clear hW hs1;go_wp2_with fail;refine(HPO.out W HB.out).mono ?_;rintro e w1 ⟨pv,rfl,hE1,hb1⟩;obtain⟨pad,pn,pcap,rfl⟩:∃pad pn pcap,pv=.slice pad pn pcap:=by obtain⟨ad,_,_,cap,hv,_⟩:=hE1;exact⟨ad,_,cap,hv⟩
 have HE1:Hid (zaj w1 (.slice pad pn pcap) (pairsL l)):=hE1;have HW1:Hid (Below W.heap.size W w1):=hb1;have HB1:Hid (Below w.heap.size w w1):=HB.out.trans (hb1.mono HB.out.size);have hHW:w.heap.size<W.heap.size:=World.block_lt_of_cell? W _ p0;have r0:=(hb1.cell (p:=⟨w.heap.size,0,none⟩) hHW).trans p0;clear hE1 hb1;go_wp2_with fail;refine(HEO.out w1 HB1.out).mono ?_;rintro e w2 ⟨rfl,hb2⟩;have HW2:Hid (Below W.heap.size W w2):=HW1.out.trans (hb2.mono HW1.out.size);have HE2:Hid (zaj w2 (.slice pad pn pcap) (pairsL l)):=HE1.out.below hb2 (Nat.le_refl _);have HF2:Hid ((w2.alloc (.cells (cells14 fun _=>(0,0)) 121)).heap[w2.heap.size]? = some (.cells (cells14 fun _=>(0,0)) 121 (0,0))):=zwX _ _ _;clear hb2 r0 HW1 HE1 HB1
 go_upto_region 5 with(first | refine wpList_store_row rfl 121 (.tmp 6) (.tmp 22) rfl w2.heap.size (cells14 f) rfl rfl 121 (cells14 fun _=>(0,0)) HF2.out (zbn _) (by rw[zbh,zbh]) (zh2 _) ?_ | fail)
 refine zqT w2 _ _ rfl ?_;intro V hEV hBV;obtain⟨EB,hEB⟩:∃EB,EB=w2.heap.size:=⟨_,rfl⟩;rw[<-hEB]at hEV ⊢;have HEV:Hid (zaw V EB f):=hEV;have HWV:Hid (Below W.heap.size W V):=HW2.out.trans (hBV.mono HW2.out.size);have HE3:Hid (zaj V (.slice pad pn pcap) (pairsL l)):=HE2.out.below hBV (Nat.le_refl _);have v0:=(HWV.out.cell (p:=⟨w.heap.size,0,none⟩) hHW).trans p0;clear hEV hBV hEB HW2 HE2 HF2;go_wp2_with (refine wpList_load_row rfl 121 (.tmp 6) rfl EB rfl 121 (cells14 f) (0,0) _ HEV.out Tryz.underlying121 rfl (zbn _) ?_);refine(HSO.out V (HB.out.trans (HWV.out.mono HB.out.size))).mono ?_;rintro e w3 ⟨sv,rfl,hown3,hb3⟩;have HOW3:Hid (w3.ownsRow (V.heap.size+1) 126 2 sv (zeQ l l.length).length (flatE (zeQ l l.length))):=hown3;have HV3:Hid (Below V.heap.size V w3):=hb3;clear hown3 hb3;have HGR:Hid (∀W',w3.grownBy W' sv.ownBlock->Below V.heap.size V W'):=fun W' hg=>HV3.out.grown hg HV3.out.size (fun q hq=>by have:=(HOW3.out.lt q hq).1;omega);have HDEL:Hid (Calls Tryz.prog 62 #[sv,.func (.func 64) #[] #[.pointer (some ⟨w.heap.size,0,none⟩)]] w3 fun r w'=>∃v',r=.returned v'/\zaj w' v' (zeT l)/\w3.grownBy w' sv.ownBlock):=by refine zqm (zeQ l l.length) sv (zxT l) 64 (V.heap.size+1) #[.pointer (some ⟨w.heap.size,0,none⟩)] w3 (fun _ _=>by kernel_rfl) HOW3.out (by have:=zkV l l.length;omega) (fun W' hg e he=>?_);obtain⟨i,hi,_,rfl⟩:=ztM.1 he;have hVW:=HGR.out W' hg;exact zBK l i (zbk l i) _ w.heap.size W' (HI.out W' (HB.out.trans ((HWV.out.trans (hVW.mono HWV.out.size)).mono HB.out.size))) hi ((hVW.cell (p:=⟨w.heap.size,0,none⟩) (Nat.lt_of_lt_of_le hHW HWV.out.size)).trans v0)
 go_wp2_with fail;refine HDEL.out.mono ?_;rintro e w4 ⟨lv,rfl,hE4,hgr4⟩;obtain⟨lad,ln,lcap,rfl⟩:∃lad ln lcap,lv=.slice lad ln lcap:=by obtain⟨ad,_,_,cap,hv,_⟩:=hE4;exact⟨ad,_,cap,hv⟩
 have HL4:Hid (zaj w4 (.slice lad ln lcap) (zeT l)):=hE4;have HV4:Hid (Below V.heap.size V w4):=HGR.out w4 hgr4;clear hE4 hgr4 HDEL HGR HV3 HOW3 HSO HEO HPO;go_wp2_with fail;rw[fstore_func _ _ _ _ _ _ _ (by simp)];go_wp2_with fail;obtain⟨V5,hV5⟩:∃V5,V5=w4.alloc (.cells #[.func (.func 68) #[] #[.pointer (some ⟨EB,0,none⟩),.pointer (some ⟨w.heap.size,0,none⟩)]] 132):=⟨_,rfl⟩;obtain⟨OB,hOBe⟩:∃OB,OB=w4.heap.size:=⟨_,rfl⟩;have h45:Below w4.heap.size w4 V5:=by rw[hV5];exact(Below.refl _ w4).alloc (Nat.le_refl _) _
 have g45:V5.cell? ⟨OB,0,none⟩=some (.func (.func 68) #[] #[.pointer (some ⟨EB,0,none⟩),.pointer (some ⟨w.heap.size,0,none⟩)]):=by rw[hV5,hOBe];exact zdb w4 _ _
 have HV5:Hid (Below V.heap.size V V5):=HV4.out.trans (h45.mono HV4.out.size);have HL5:Hid (zaj V5 (.slice lad ln lcap) (zeT l)):=HL4.out.below h45 (Nat.le_refl _);have HE5:Hid (zaj V5 (.slice pad pn pcap) (pairsL l)):=HE3.out.below HV5.out (Nat.le_refl _);have HEN5:Hid (zaw V5 EB f):=HEV.out.below HV5.out HEV.out.lt;have HWV5:Hid (Below W.heap.size W V5):=HWV.out.trans (HV5.out.mono HWV.out.size);have HI5:Hid (∀W',Below V5.heap.size V5 W'->zai W' (.slice ad l.length cap) l):=fun W' hW'=>HI.out W' (HB.out.trans ((HWV5.out.trans (hW'.mono HWV5.out.size)).mono HB.out.size));have g0:=(HWV5.out.cell (p:=⟨w.heap.size,0,none⟩) hHW).trans p0;have hH5:w.heap.size<V5.heap.size:=World.block_lt_of_cell? V5 _ g0;have hOB:OB<V5.heap.size:=World.block_lt_of_cell? V5 _ g45;have HF5:Hid (zbG V5 (w.heap.size+1) false false false false):=HF.out.below HWV5.out HF.out.lt;have hF5:w.heap.size+1<V5.heap.size:=HF5.out.lt;have hBV5:Below w.heap.size w V5:=HB.out.trans (HWV5.out.mono HB.out.size);have HBV5:Hid (Below w.heap.size w V5):=hBV5;have HLL:Hid ((zeT l).length<=40):=by show(zeT l).length<=40;have h1:=List.length_filter_le (fun s=>!zxT l s) (zeQ l l.length);have h2:=zkV l l.length;unfold zeT;omega
 rw[<-hV5,<-hOBe];clear hV5 hOBe h45 hBV5 HV4 HL4 HE3 HEV HWV HV5 v0 p0 HF;obtain⟨a1,ha1⟩:∃b,(zeT l).any (zeV l f)=b:=⟨_,rfl⟩;obtain⟨a2,ha2⟩:∃b,(zeT l).any (zhu f)=b:=⟨_,rfl⟩;obtain⟨a3,ha3⟩:∃b,(pairsL l).any (ziU l f)=b:=⟨_,rfl⟩;obtain⟨a4,ha4⟩:∃b,(pairsL l).any (zgo l f)=b:=⟨_,rfl⟩;have HC1:Hid (∀W',Below V5.heap.size V5 W'->Calls Tryz.prog 71 #[.slice lad ln lcap,.func (.func 65) #[] #[.pointer (some ⟨EB,0,none⟩),.pointer (some ⟨w.heap.size,0,none⟩)]] W' fun e w'=>e=.returned (.bool a1)/\Below V5.heap.size V5 w'):=fun W' hW'=>by rw[<-ha1];refine(zgL (zeT l) _ (zeV l f) 65 #[.pointer (some ⟨EB,0,none⟩),.pointer (some ⟨w.heap.size,0,none⟩)] W' (fun _ _=>by kernel_rfl) (HL5.out.below hW' (Nat.le_refl _)) (by have h9:=HLL.out;omega) (fun W2 hW2 e he=>?_)).mono fun e w' ⟨h1,h2⟩=>⟨h1,hW'.trans (h2.mono hW'.size)⟩;have hV2:Below V5.heap.size V5 W2:=hW'.trans (hW2.mono hW'.size);obtain⟨i,hi,_,rfl,hf0,_⟩:=zeD.1 he;have hft:=zkB HOP.out hi hf0;exact zwi l f i (zbk l i) _ w.heap.size EB W2 (HI5.out W2 hV2) HOP.out hi (by omega) (by omega) ((hV2.cell (p:=⟨w.heap.size,0,none⟩) hH5).trans g0) (HEN5.out.below hV2 HEN5.out.lt)
 have HC2:Hid (∀W',Below V5.heap.size V5 W'->Calls Tryz.prog 71 #[.slice lad ln lcap,.func (.func 67) #[] #[.pointer (some ⟨EB,0,none⟩)]] W' fun e w'=>e=.returned (.bool a2)/\Below V5.heap.size V5 w'):=fun W' hW'=>by rw[<-ha2];refine(zgL (zeT l) _ (zhu f) 67 #[.pointer (some ⟨EB,0,none⟩)] W' (fun _ _=>by kernel_rfl) (HL5.out.below hW' (Nat.le_refl _)) (by have h9:=HLL.out;omega) (fun W2 hW2 e he=>?_)).mono fun e w' ⟨h1,h2⟩=>⟨h1,hW'.trans (h2.mono hW'.size)⟩;have hV2:Below V5.heap.size V5 W2:=hW'.trans (hW2.mono hW'.size);obtain⟨i,hi,_,rfl,hf0,_⟩:=zeD.1 he;have hft:=zkB HOP.out hi hf0;exact zwD f i (zbk l i) EB W2 (by omega) (by omega) (HEN5.out.below hV2 HEN5.out.lt)
 have HC3:Hid (∀W',Below V5.heap.size V5 W'->Calls Tryz.prog 72 #[.slice pad pn pcap,.func (.func 70) #[] #[.pointer (some ⟨w.heap.size,0,none⟩),.pointer (some ⟨OB,0,none⟩)]] W' fun e w'=>e=.returned (.bool a3)/\Below V5.heap.size V5 w'):=fun W' hW'=>by rw[<-ha3];refine(zbA (pairsL l) _ (ziU l f) 70 #[.pointer (some ⟨w.heap.size,0,none⟩),.pointer (some ⟨OB,0,none⟩)] W' (fun _ _=>by kernel_rfl) (HE5.out.below hW' (Nat.le_refl _)) (by have h9:=HPL.out;omega) (fun W2 hW2 e he=>?_)).mono fun e w' ⟨h1,h2⟩=>⟨h1,hW'.trans (h2.mono hW'.size)⟩;have hV2:Below V5.heap.size V5 W2:=hW'.trans (hW2.mono hW'.size);obtain⟨i,j,hij,hj,_,rfl⟩:=zbv.1 he;exact zvZ l f i j _ w.heap.size EB OB W2 (HI5.out W2 hV2) HOP.out (by omega) ((hV2.cell (p:=⟨w.heap.size,0,none⟩) hH5).trans g0) (HEN5.out.below hV2 HEN5.out.lt) ((hV2.cell (p:=⟨OB,0,none⟩) hOB).trans g45)
 have HC4:Hid (∀W',Below V5.heap.size V5 W'->Calls Tryz.prog 72 #[.slice pad pn pcap,.func (.func 68) #[] #[.pointer (some ⟨EB,0,none⟩),.pointer (some ⟨w.heap.size,0,none⟩)]] W' fun e w'=>e=.returned (.bool a4)/\Below V5.heap.size V5 w'):=fun W' hW'=>by rw[<-ha4];refine(zbA (pairsL l) _ (zgo l f) 68 #[.pointer (some ⟨EB,0,none⟩),.pointer (some ⟨w.heap.size,0,none⟩)] W' (fun _ _=>by kernel_rfl) (HE5.out.below hW' (Nat.le_refl _)) (by have h9:=HPL.out;omega) (fun W2 hW2 e he=>?_)).mono fun e w' ⟨h1,h2⟩=>⟨h1,hW'.trans (h2.mono hW'.size)⟩;have hV2:Below V5.heap.size V5 W2:=hW'.trans (hW2.mono hW'.size);obtain⟨i,j,hij,hj,_,rfl⟩:=zbv.1 he;exact zsb l f i j _ w.heap.size EB W2 (HI5.out W2 hV2) HOP.out (by omega) ((hV2.cell (p:=⟨w.heap.size,0,none⟩) hH5).trans g0) (HEN5.out.below hV2 HEN5.out.lt)
 have HEQ:Hid (zwB l=!a1/\zxz l=!a2/\zw1 l=!a3/\zyd l=!a4):=by show _/\_/\_/\_;rw[<-ha1,<-ha2,<-ha3,<-ha4];exact⟨HRES.out.1.symm,HRES.out.2.1.symm,HRES.out.2.2.1.symm,HRES.out.2.2.2.symm⟩
 have hW0:Below V5.heap.size V5 V5.drew:=(Below.refl _ V5).drew;clear ha1 ha2 ha3 ha4 HRES g0 hH5
 go_region_law (first | (refine zeK rfl 71 (.tmp 32) (.tmp 33) _ rfl (.slice lad ln lcap) (by simp[Act.eval,Act.put]) (.func (.func 65) #[] #[.pointer (some ⟨EB,0,none⟩),.pointer (some ⟨w.heap.size,0,none⟩)]) (by simp[Act.eval,Act.put]) HENS.out (.bool a1) (fun w'=>Below V5.heap.size V5 w') (HC1.out _ (by assumption)) ?_;intro W1 hW1;have l1:=(hW1.cell (p:=⟨OB,0,none⟩) hOB).trans g45) | (refine zeK rfl 71 (.tmp 36) (.tmp 37) _ rfl (.slice lad ln lcap) (by simp[Act.eval,Act.put]) (.func (.func 67) #[] #[.pointer (some ⟨EB,0,none⟩)]) (by simp[Act.eval,Act.put]) HENS.out (.bool a2) (fun w'=>Below V5.heap.size V5 w') (HC2.out _ (by assumption)) ?_;intro W2 hW2;have l2:=(hW2.cell (p:=⟨OB,0,none⟩) hOB).trans g45) | (refine zeK rfl 72 (.tmp 40) (.tmp 41) _ rfl (.slice pad pn pcap) (by simp[Act.eval,Act.put]) (.func (.func 70) #[] #[.pointer (some ⟨w.heap.size,0,none⟩),.pointer (some ⟨OB,0,none⟩)]) (by simp[Act.eval,Act.put]) HENE.out (.bool a3) (fun w'=>Below V5.heap.size V5 w') (HC3.out _ (by assumption)) ?_;intro W3 hW3;have l3:=(hW3.cell (p:=⟨OB,0,none⟩) hOB).trans g45) | (refine zeK rfl 72 (.tmp 44) (.tmp 45) _ rfl (.slice pad pn pcap) (by simp[Act.eval,Act.put]) (.func (.func 68) #[] #[.pointer (some ⟨EB,0,none⟩),.pointer (some ⟨w.heap.size,0,none⟩)]) (by simp[Act.eval,Act.put]) HENE.out (.bool a4) (fun w'=>Below V5.heap.size V5 w') (HC4.out _ (by assumption)) ?_;intro W4 hW4;have HF4:=HF5.out.below hW4 hF5;obtain⟨z0,z1,z2,z3⟩:=HF4.cells;have y0:=HF4.thaw 0;have y1:=HF4.thaw 1;have y2:=HF4.thaw 2;have y3:=HF4.thaw 3))
 all_goals
  go_wp2_with fail;refine bodyPost_ret (v:=.tuple #[.agg #[.bool !a1,.bool !a2,.bool !a3,.bool !a4],.nilIface]) (zgE Tryz.results25 _ _ (w.heap.size+1) 62 #[.bool !a1,.bool !a2,.bool !a3,.bool !a4] (0,0) _ _ rfl rfl (HF4.put _ _ _ _) Tryz.underlying62 rfl zlX) rfl ⟨?_,?_⟩
  ·rw[HEQ.out.1,HEQ.out.2.1,HEQ.out.2.2.1,HEQ.out.2.2.2]
  ·exact((((HBV5.out.trans (hW4.mono HBV5.out.size)).setCell (by simp) _).setCell (by simp) _).setCell (by simp) _).setCell (by simp) _
end Go.Proofs.YthlhgiihngcobaaGreatDoor
namespace Go.Proofs.YthlhgiihngcobaaGreatDoor
open Go.RowKit
def zi3(l:List Op3):Bool × Bool × Bool × Bool:=if(chk l).2≠0 then(false,false,false,false)else(zwB l,zxz l,zw1 l,zyd l)
def zBh:Prop:=∀(l:List Op3) (ad:Option Addr) (cap:Nat) (w:World),zai w (.slice ad l.length cap) l->l.length<=cap->Calls Tryz.prog 25 #[.slice ad l.length cap] w fun e w'=>e=.returned (.tuple #[zqv (zi3 l),zeH (chk l).2])/\Below w.heap.size w w'
end Go.Proofs.YthlhgiihngcobaaGreatDoor
namespace Go.Proofs.YthlhgiihngcobaaGreatDoor
open Go.RowKit
theorem zBz:zBh:=by
 intro l ad cap w hI hcap;by_cases hc:(chk l).2=0
 ·refine(zBa l ad cap w hI hcap hc).mono fun e w' ⟨he,hb⟩=>⟨?_,hb⟩;rw[he,hc];unfold zi3 zqv;rw[if_neg (by rw[hc];decide)];rfl
 ·refine(zAk l _ w hI hc).mono fun e w' ⟨he,hb⟩=>⟨?_,hb⟩;rw[he];unfold zi3 zqv zeH;rw[if_pos hc,if_neg hc]
end Go.Proofs.YthlhgiihngcobaaGreatDoor
namespace Go.Proofs.YthlhgiihngcobaaGreatDoor
def zij(l:List Op3)(i j:Nat)(t:Int):Bool:=((l.drop i).take (j-i)).any fun o=>o.1 == t && zaM o.2.1
def goneE(l:List Op3)(e:zab):Bool:=zij l e.1.toNat e.2.toNat (opAt l e.1.toNat).1
def openL(l:List Op3):List zab:=(pairsL l).filter fun e=>!goneE l e
def zcO(l:List Op3)(a b:Int)(e:zab):Bool:=(opAt l e.1.toNat).2.1 == a && (opAt l e.2.toNat).2.1 == b
def zfQ(l:List Op3)(e:zab):Bool :=(opAt l e.1.toNat).2.1 == 1 && ((l.drop (e.2.toNat+1)).contains ((opAt l e.1.toNat).1,2,(opAt l e.1.toNat).2.2) && (l.drop (e.2.toNat+1)).contains ((opAt l e.1.toNat).1,3,0))
theorem zmS{l:List Op3}(hl:l.length<=40):(openL l).length<=1600:=Nat.le_trans (List.length_filter_le ..) (zex l hl)
theorem zjo{l:List Op3}{i j:Nat}{t:Int}(hij:i<=j)(hj:j<=l.length):zij l i j t=true↔∃m,i<=m/\m<j/\(opAt l m).1=t/\zaM (opAt l m).2.1=true:=by
 unfold zij;rw[List.any_eq_true];constructor
 ·rintro⟨o,ho,h⟩;obtain⟨m,hm,rfl⟩:=List.mem_iff_getElem.1 ho;rw[List.length_take,List.length_drop]at hm;rw[Bool.and_eq_true,beq_iff_eq,List.getElem_take,List.getElem_drop]at h;refine⟨i+m,by omega,by omega,?_⟩;rw[zcS (show i+m<l.length by omega)];exact h
 ·rintro⟨m,h1,h2,h3,h4⟩;refine⟨opAt l m,?_,by rw[Bool.and_eq_true,beq_iff_eq];exact⟨h3,h4⟩⟩;refine List.mem_iff_getElem.2 ⟨m-i,by rw[List.length_take,List.length_drop];omega,?_⟩;rw[List.getElem_take,List.getElem_drop,zcS (show m<l.length by omega)];congr 1;omega
theorem zl5{l:List Op3}(hc:(chk l).2=0){i j:Nat}(hij:i<j)(hj:j<l.length):zij l i j (opAt l i).1=false↔zbl l (opAt l i).1 j=0:=by
 obtain⟨_,hop,hcalm⟩:=(zbq l).1 hc;constructor
 ·intro h;by_cases h0:zbl l (opAt l i).1 j=0
  ·exact h0
  ·obtain⟨k,k1,k2,k3,_⟩:=zcs _ (Nat.le_of_lt hj) h0;have hem:zaM (opAt l k).2.1=true:=by rw[zeq (hop _ (zal (show k<l.length by omega)))];simpa using k3
   rcases Nat.lt_or_ge k i with e | e
   ·exact absurd k2 (zfS hcalm e (by omega) hem)
   ·have:zij l i j (opAt l i).1=true:=(zjo (Nat.le_of_lt hij) (Nat.le_of_lt hj)).2 ⟨k,e,k1,k2,hem⟩;rw[h]at this;cases this
 ·intro h;cases hx:zij l i j (opAt l i).1 with
  | false=>rfl
  | true =>
    obtain⟨m,h1,h2,h3,h4⟩:=(zjo (Nat.le_of_lt hij) (Nat.le_of_lt hj)).1 hx;have h5:3<=(opAt l m).2.1:=by rw[zeq (hop _ (zal (show m<l.length by omega)))]at h4;simpa using h4
    have:=zki hcalm hop (Nat.le_of_lt hj) h2 h3 h5;rw[h]at this;omega
theorem zpO{l:List Op3}(hc:(chk l).2=0){e:zab}:e∈openL l↔∃i j:Nat,i<j/\j<l.length/\zgf (opAt l i) (opAt l j)=true/\zbl l (opAt l i).1 j=0/\e=((i:Int),(j:Int)):=by
 unfold openL;rw[List.mem_filter,zbv];constructor
 ·rintro⟨⟨i,j,h1,h2,h3,rfl⟩,h4⟩;refine⟨i,j,h1,h2,h3,(zl5 hc h1 h2).1 ?_,rfl⟩;simpa[goneE]using h4
 ·rintro⟨i,j,h1,h2,h3,h4,rfl⟩;refine⟨⟨i,j,h1,h2,h3,rfl⟩,?_⟩;have:=(zl5 hc h1 h2).2 h4;simpa[goneE]using this
theorem zkc{o p:Op3}:zgf o p=true↔o.1≠p.1/\o.2.2=p.2.2/\(o.2.1=2\/p.2.1=2):=by simp[zgf]
theorem zpS{l:List Op3}(hc:(chk l).2=0){p:zab->Bool}:(openL l).any p=true↔∃i j:Nat,i<j/\j<l.length/\zgf (opAt l i) (opAt l j)=true/\zbl l (opAt l i).1 j=0/\p ((i:Int),(j:Int))=true:=by
 rw[List.any_eq_true];constructor
 ·rintro⟨e,he,hp⟩;obtain⟨i,j,h1,h2,h3,h4,rfl⟩:=(zpO hc).1 he;exact⟨i,j,h1,h2,h3,h4,hp⟩
 ·rintro⟨i,j,h1,h2,h3,h4,hp⟩;exact⟨_,(zpO hc).2 ⟨i,j,h1,h2,h3,h4,rfl⟩,hp⟩
theorem zkv{l:List Op3}(hc:(chk l).2=0){a b:Int}(hab:a=2\/b=2):(openL l).any (zcO l a b)=ze6 (fun i=>(opAt l i).2.1 == b && zfd l i a) l.length:=by
 rw[Bool.eq_iff_iff,zpS hc,zcz];constructor
 ·rintro⟨i,j,h1,h2,h3,h4,h5⟩;simp only[zcO,Int.toNat_natCast,Bool.and_eq_true,beq_iff_eq]at h5;obtain⟨o1,o2,_⟩:=zkc.1 h3;refine⟨j,h2,?_⟩;rw[Bool.and_eq_true,beq_iff_eq];exact⟨h5.2,zdf.2 ⟨i,h1,h5.1,o2,o1,h4⟩⟩
 ·rintro⟨j,hj,h⟩;rw[Bool.and_eq_true,beq_iff_eq]at h;obtain⟨i,h1,h2,h3,h4,h5⟩:=zdf.1 h.2;refine⟨i,j,h1,hj,zkc.2 ⟨h4,h3,?_⟩,h5,?_⟩
  ·rw[h2,h.1];exact hab
  ·simp only[zcO,Int.toNat_natCast,Bool.and_eq_true,beq_iff_eq];exact⟨h2,h.1⟩
theorem zeC{l:List Op3}{n:Nat}{o:Op3}:o∈l.drop n↔∃m,n<=m/\m<l.length/\opAt l m=o:=by
 constructor
 ·intro h;obtain⟨m,hm,rfl⟩:=List.mem_iff_getElem.1 h;rw[List.length_drop]at hm;refine⟨n+m,by omega,by omega,?_⟩;rw[List.getElem_drop,zcS (show n+m<l.length by omega)]
 ·rintro⟨m,h1,h2,rfl⟩;refine List.mem_iff_getElem.2 ⟨m-n,by rw[List.length_drop];omega,?_⟩;rw[List.getElem_drop,zcS h2];congr 1;omega
theorem zxU{l:List Op3}(hc:(chk l).2=0):(openL l).any (zfQ l)=zzO l l.length:=by
 obtain⟨_,hop,hcalm⟩:=(zbq l).1 hc;rw[Bool.eq_iff_iff,zpS hc];constructor
 ·rintro⟨i,k,h1,h2,h3,h4,h5⟩;simp only[zfQ,Int.toNat_natCast,Bool.and_eq_true,beq_iff_eq,List.contains_iff_mem]at h5;obtain⟨a1,a2,a3⟩:=h5;obtain⟨o1,o2,o3⟩:=zkc.1 h3;obtain⟨j,b1,b2,b3⟩:=zeC.1 a2;obtain⟨m,c1,c2,c3⟩:=zeC.1 a3;have hend:zgc l (opAt l i).1=3:=by have:=zki hcalm hop (Nat.le_refl _) c2 (by rw[c3]:(opAt l m).1=(opAt l i).1) (by rw[c3];exact(by decide:(3:Int)<=3));rw[c3]at this;unfold zbl at this;rw[List.take_length]at this;exact this
  refine zcz.2 ⟨i,by omega,zcz.2 ⟨k,h2,?_⟩⟩;rw[Bool.and_eq_true,decide_eq_true_eq];refine⟨h1,zcz.2 ⟨j,b2,?_⟩⟩;rw[Bool.and_eq_true,decide_eq_true_eq];refine⟨by omega,?_⟩;unfold zze;simp only[Bool.and_eq_true,beq_iff_eq,bne_iff_ne]
  have hw:(opAt l k).2.1=2:=by
   rcases o3 with e | e
   ·rw[a1]at e;cases e
   ·exact e
  exact⟨a1,hw,by rw[b3],by rw[b3],o1,o2,by rw[b3],hend⟩
 ·intro hl;obtain⟨i,hi,h1⟩:=zcz.1 hl;obtain⟨k,hk,h2⟩:=zcz.1 h1;rw[Bool.and_eq_true,decide_eq_true_eq]at h2;obtain⟨j,hj,h3⟩:=zcz.1 h2.2;rw[Bool.and_eq_true,decide_eq_true_eq]at h3;have h4:=h3.2;unfold zze at h4;simp only[Bool.and_eq_true,beq_iff_eq,bne_iff_ne]at h4;obtain⟨a1,a2,a3,a4,a5,a6,a7,a8⟩:=h4;have hnone:∀m,m<j->¬((opAt l m).1=(opAt l i).1/\zaM (opAt l m).2.1=true):=fun m hm h =>zfS hcalm hm hj h.2 (by rw[h.1,a4])
  have h0:zbl l (opAt l i).1 k=0:=by
   by_cases h0:zbl l (opAt l i).1 k=0
   ·exact h0
   ·obtain⟨m,m1,m2,m3,_⟩:=zcs _ (Nat.le_of_lt hk) h0;have hem:zaM (opAt l m).2.1=true:=by rw[zeq (hop _ (zal (show m<l.length by omega)))];simpa using m3
    exact absurd ⟨m2,hem⟩ (hnone m (by omega))
  refine⟨i,k,h2.1,hk,zkc.2 ⟨a5,a6,.inr a2⟩,h0,?_⟩;simp only[zfQ,Int.toNat_natCast,Bool.and_eq_true,beq_iff_eq,List.contains_iff_mem];refine⟨a1,zeC.2 ⟨j,by omega,hj,?_⟩,?_⟩
  ·obtain⟨⟨t,a,x⟩,ho⟩:∃o:Op3,opAt l j=o:=⟨_,rfl⟩;rw[ho]at a3 a4 a7 ⊢;simp only at a3 a4 a7;rw[a3,a4,a7]
  ·have he:zbl l (opAt l i).1 l.length=3:=by unfold zbl;rw[List.take_length];exact a8
   obtain⟨m,m1,m2,m3,m4⟩:=zcs _ (Nat.le_refl _) (show zbl l (opAt l i).1 l.length≠0 by rw[he];decide);rw[he]at m4;have hem:zaM (opAt l m).2.1=true:=by rw[m4];rfl
   have hmk:¬m<j:=fun h=>hnone m h ⟨m2,hem⟩;refine zeC.2 ⟨m,by omega,m1,?_⟩;have hz:=hop _ (zal m1);obtain⟨⟨t,a,x⟩,ho⟩:∃o:Op3,opAt l m=o:=⟨_,rfl⟩;rw[ho]at m2 m4 hz ⊢;simp only at m2 m4;rcases isOp_kindsI hz with e | e | ⟨_,e⟩
   ·simp only at e;omega
   ·simp only at e;omega
   ·simp only at e;rw[m2,m4,e]
end Go.Proofs.YthlhgiihngcobaaGreatDoor
