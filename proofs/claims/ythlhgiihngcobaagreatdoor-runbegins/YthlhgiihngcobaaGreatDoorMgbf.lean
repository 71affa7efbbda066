/-
  PROVED HERE: package ills; package ills' First keeps what it is asked (IllsFirstC); package ills' Of keeps what it is asked (IllsOfC); package play's board in a block of memory (what the items are, how many ops each deal had, all that each has.
  Conditions: none but those that each theorem's own premises say.
-/
import Derived.Test.YthlhgiihngcobaaGreatDoorMgbe
import Derived.Test.YthlhgiihngcobaaGreatDoorMgal
import Derived.Test.YthlhgiihngcobaaGreatDoorMgaq
import Derived.Test.YthlhgiihngcobaaGreatDoorMgag
import Derived.Test.YthlhgiihngcobaaGreatDoorMgah
import Derived.Test.YthlhgiihngcobaaGreatDoorMgaj
import Derived.Laws.Rows
import Derived.OwnWalk
import Derived.Deep.Cut
import Derived.Maps.AppendAt
set_option maxHeartbeats 32000000
set_option maxRecDepth 100000
namespace Go.Proofs.YthlhgiihngcobaaGreatDoor
open Go.RowKit
theorem zvh:∀(args:Array Value) (W:World),(callFunc 75 args).run Tryz.prog W=.ok (.enter 75 args) W:=fun args W=>by kernel_rfl
theorem zw8:∀(args:Array Value) (W:World),(callFunc 74 args).run Tryz.prog W=.ok (.enter 74 args) W:=fun args W=>by kernel_rfl
theorem ztJ:∀(args:Array Value) (W:World),(callFunc 76 args).run Tryz.prog W=.ok (.enter 76 args) W:=fun args W=>by kernel_rfl
theorem zzn(l:List Op3)(ad:Option Addr)(cap i j H F T:Nat)(a b:Int)(w:World)(hI:zai w (.slice ad l.length cap) l)(hi:i<l.length)(hj:j<l.length)(k:w.cell? ⟨H,0,none⟩=some (.slice ad l.length cap))(kf:w.cell? ⟨F,0,none⟩=some (.int .i64 a))(kt:w.cell? ⟨T,0,none⟩=some (.int .i64 b)):Calls Tryz.prog 75 (#[.agg #[.int .i64 (i:Int),.int .i64 (j:Int)]] ++ #[.pointer (some ⟨H,0,none⟩),.pointer (some ⟨F,0,none⟩),.pointer (some ⟨T,0,none⟩)]) w fun e w'=>e=.returned (.bool (zcO l a b ((i:Int),(j:Int))))/\Below w.heap.size w w':=by
 obtain⟨bb,off,rfl,hb,hops⟩:=zj8 hI (by omega);obtain⟨-,c1,-⟩:=hops i hi;obtain⟨-,d1,-⟩:=hops j hj;have HK:Hid (zcO l a b ((i:Int),(j:Int))=((opAt l i).2.1 == a && (opAt l j).2.1 == b)):=by show zcO _ _ _ _=_;unfold zcO;simp only[Int.toNat_natCast]
 obtain⟨x,hx⟩:∃x,(opAt l i).2.1=x:=⟨_,rfl⟩;obtain⟨y,hy⟩:∃y,(opAt l j).2.1=y:=⟨_,rfl⟩;rw[hx,hy]at HK;have c1':w.cell? ⟨bb,off+i*3+1,none⟩=some (.int .i64 x):=by rw[<-hx];exact c1
 have d1':w.cell? ⟨bb,off+j*3+1,none⟩=some (.int .i64 y):=by rw[<-hy];exact d1
 have l1:=World.block_lt_of_cell? w _ k;have l2:=World.block_lt_of_cell? w _ kf;have l3:=World.block_lt_of_cell? w _ kt;simp only at l1 l2 l3;obtain⟨n,hn⟩:∃n,l.length=n:=⟨_,rfl⟩;rw[hn]at k hi hj;have hi':(i:Int)<(n:Int):=by omega
 have hj':(j:Int)<(n:Int):=by omega
 clear c1 d1 hops hI hx hy hn;go_enter Tryz.func75,Tryz.ntmps75
 go_upto_region 1 with(fail)
 obtain⟨W,hW⟩:∃W,W=w.alloc (.cells #[.int .i64 (i:Int),.int .i64 (j:Int)] 131):=⟨_,rfl⟩;rw[<-hW];have hbW:Below w.heap.size w W:=by rw[hW];exact(Below.refl _ w).alloc (Nat.le_refl _) _
 have p0:W.cell? ⟨w.heap.size,0,none⟩=some (.int .i64 (i:Int)):=by rw[hW];simp
 have p1:W.cell? ⟨w.heap.size,1,none⟩=some (.int .i64 (j:Int)):=by rw[hW];simp
 have k1:=(hbW.cell (p:=⟨H,0,none⟩) l1).trans k;have k2:=(hbW.cell (p:=⟨F,0,none⟩) l2).trans kf;have k3:=(hbW.cell (p:=⟨T,0,none⟩) l3).trans kt;have e1:=(hbW.cell (p:=⟨bb,off+i*3+1,none⟩) hb).trans c1';have e2:=(hbW.cell (p:=⟨bb,off+j*3+1,none⟩) hb).trans d1';obtain⟨P,hP⟩:∃P,P=w.heap.size:=⟨_,rfl⟩;rw[<-hP]at p0 p1 ⊢;have HB:Hid (∀m,Below w.heap.size w (W.drewN m)):=fun m=>below_drewN hbW m;clear hW hbW hP c1' d1' k kf kt l1 l2 l3 hb;cases h1:(x == a)with
 | false =>go_quiet (fail);go_wp2_with fail;go_ret;exact⟨ret_bool (by rw[HK.out,h1];rfl),HB.out _⟩
 | true =>
   cases h2:(y == b)with
   | false =>go_quiet (fail);go_wp2_with fail;go_ret;exact⟨ret_bool (by rw[HK.out,h1,h2];rfl),HB.out _⟩
   | true =>go_quiet (fail);go_wp2_with fail;go_ret;exact⟨ret_bool (by rw[HK.out,h1,h2];rfl),HB.out _⟩
theorem zBi(l:List Op3)(es:List zab)(v:Value)(ad:Option Addr)(cap H O:Nat)(a b:Int)(w:World)(hI:zai w (.slice ad l.length cap) l)(hE:zaj w v es)(hes:es.length<=1600)(hin:∀e∈es,∃i j:Nat,i<j/\j<l.length/\e=((i:Int),(j:Int)))(k:w.cell? ⟨H,0,none⟩=some (.slice ad l.length cap))(ko:w.cell? ⟨O,0,none⟩=some v):Calls Tryz.prog 74 (#[.int .i64 a,.int .i64 b] ++ #[.pointer (some ⟨O,0,none⟩),.pointer (some ⟨H,0,none⟩)]) w fun e w'=>e=.returned (.bool (es.any (zcO l a b)))/\Below w.heap.size w w':=by
 obtain⟨vad,vn,vcap,rfl⟩:∃vad vn vcap,v=.slice vad vn vcap:=by obtain⟨ad,_,_,cap,hv,_⟩:=hE;exact⟨ad,_,cap,hv⟩
 have l1:=World.block_lt_of_cell? w _ k;have l2:=World.block_lt_of_cell? w _ ko;simp only at l1 l2;obtain⟨g,hg⟩:∃g,es.any (zcO l a b)=g:=⟨_,rfl⟩;have HC:Hid (∀V F T,Below w.heap.size w V->V.cell? ⟨F,0,none⟩=some (.int .i64 a)->V.cell? ⟨T,0,none⟩=some (.int .i64 b)->Calls Tryz.prog 72 #[.slice vad vn vcap,.func (.func 75) #[] #[.pointer (some ⟨H,0,none⟩),.pointer (some ⟨F,0,none⟩),.pointer (some ⟨T,0,none⟩)]] V fun e w'=>e=.returned (.bool g)/\Below V.heap.size V w'):=fun V F T hV kf kt=>by rw[<-hg];refine zbA es _ (zcO l a b) 75 #[.pointer (some ⟨H,0,none⟩),.pointer (some ⟨F,0,none⟩),.pointer (some ⟨T,0,none⟩)] V zvh (hE.below hV (Nat.le_refl _)) (by omega) (fun W2 hW2 e he=>?_);obtain⟨i,j,hij,hj,rfl⟩:=hin e he;have hV2:Below w.heap.size w W2:=hV.trans (hW2.mono hV.size);exact zzn l ad cap i j H F T a b W2 (hI.below hV2 (Nat.le_refl _)) (by omega) hj ((hV2.cell (p:=⟨H,0,none⟩) l1).trans k) ((hW2.cell (p:=⟨F,0,none⟩) (World.block_lt_of_cell? V _ kf)).trans kf) ((hW2.cell (p:=⟨T,0,none⟩) (World.block_lt_of_cell? V _ kt)).trans kt)
 rw[hg];clear hE hes hin hI hg k l1;go_enter Tryz.func74,Tryz.ntmps74
 go_upto_region 1 with(fail)
 obtain⟨W,hW⟩:∃W,W=(w.alloc (.cells #[.int .i64 a] 3)).alloc (.cells #[.int .i64 b] 3):=⟨_,rfl⟩;have hbW:Below w.heap.size w W:=by rw[hW];exact((Below.refl _ w).alloc (Nat.le_refl _) _).alloc (by simp) _
 have p0:W.cell? ⟨w.heap.size,0,none⟩=some (.int .i64 a):=by rw[hW];simp
 have p1:W.cell? ⟨w.heap.size+1,0,none⟩=some (.int .i64 b):=by rw[hW];simp
 have o0:=(hbW.cell (p:=⟨O,0,none⟩) l2).trans ko;have HCW:=zcK (HC.out W _ _ hbW p0 p1);have HBW:=zcK hbW;have hsz:(w.alloc (.cells #[.int .i64 a] 3)).heap.size=w.heap.size+1:=by simp
 rw[<-hW];try rw[hsz]
 clear hW hbW p0 p1 HC hsz ko l2;go_wp2_with fail;refine HCW.out.mono ?_;rintro e w1 ⟨rfl,hb1⟩;have HB1:Hid (Below w.heap.size w w1):=HBW.out.trans (hb1.mono HBW.out.size);clear hb1;go_wp2_with fail;go_ret;exact⟨rfl,HB1.out⟩
theorem zAh(l:List Op3)(ad:Option Addr)(cap i j:Nat)(w:World)(hI:zai w (.slice ad l.length cap) l)(hcap:l.length<=cap)(hl:l.length<=40)(hij:i<j)(hj:j<l.length):Calls Tryz.prog 77 #[.slice ad l.length cap,.agg #[.int .i64 (i:Int),.int .i64 (j:Int)]] w fun e w'=>e=.returned (.bool (zfQ l ((i:Int),(j:Int))))/\Below w.heap.size w w':=by
 obtain⟨b,off,rfl,hb,hops⟩:=zj8 hI (by omega);obtain⟨A,c,hrun0,hon⟩:=zAN (i:=j+1) hops hb hcap (by omega);have hrun:∀W,(Instr.sliceAt 28 (.slice (some ⟨b,off,none⟩) l.length cap) (some (.int .i64 ((j:Int)+1))) none none).run Tryz.prog W=.ok (.slice A (l.length-(j+1)) c) W:=hrun0;obtain⟨⟨t,a,x⟩,ho⟩:∃o:Op3,opAt l i=o:=⟨_,rfl⟩;obtain⟨c0,c1,c2⟩:=hops i (by omega);have ho':l.getD i (0,0,0)=(t,a,x):=ho;rw[ho']at c0 c1 c2;simp only at c0 c1 c2;obtain⟨ms,hms⟩:∃ms,l.drop (j+1)=ms:=⟨_,rfl⟩;have hml:ms.length<=40:=by rw[<-hms,List.length_drop];omega
 have HL:Hid (zfQ l ((i:Int),(j:Int))=(a == 1 && (ms.contains (t,2,x) && ms.contains (t,3,0)))):=by show zfQ _ _=_;unfold zfQ;simp only[Int.toNat_natCast,ho,hms]
 rw[hms]at hon;obtain⟨d,hd⟩:∃d,l.length-(j+1)=d:=⟨_,rfl⟩;rw[hd]at hrun hon;obtain⟨n,hn⟩:∃n,l.length=n:=⟨_,rfl⟩;rw[hn]at hrun hj hl ⊢;have HCN:Hid (∀V,Below w.heap.size w V->∀p q r:Int,Calls Tryz.prog 136 #[.slice A d c,.agg #[.int .i64 p,.int .i64 q,.int .i64 r]] V fun e w'=>e=.returned (.bool (ms.contains (p,q,r)))/\Below V.heap.size V w'):=fun V hV p q r=>zlH ms _ (p,q,r) V (hon.below hV (Nat.le_refl _)) (by omega);have hi':(i:Int)<(n:Int):=by omega
 have hwr:IntKind.i64.wrap ((j:Int)+1)=(j:Int)+1:=by rw[IntKind.wrap_i64];omega
 clear hrun0 hon hops hI hcap ho ho' hms hml hd hn;go_enter Tryz.func77,Tryz.ntmps77
 go_upto_region 1 with(fail)
 obtain⟨W,hW⟩:∃W,W=w.alloc (.cells #[.int .i64 (i:Int),.int .i64 (j:Int)] 131):=⟨_,rfl⟩;rw[<-hW];have hbW:Below w.heap.size w W:=by rw[hW];exact(Below.refl _ w).alloc (Nat.le_refl _) _
 have p0:W.cell? ⟨w.heap.size,0,none⟩=some (.int .i64 (i:Int)):=by rw[hW];simp
 have p1:W.cell? ⟨w.heap.size,1,none⟩=some (.int .i64 (j:Int)):=by rw[hW];simp
 have e0:=(hbW.cell (p:=⟨b,off+i*3,none⟩) hb).trans c0;have e1:=(hbW.cell (p:=⟨b,off+i*3+1,none⟩) hb).trans c1;have e2:=(hbW.cell (p:=⟨b,off+i*3+2,none⟩) hb).trans c2;obtain⟨P,hP⟩:∃P,P=w.heap.size:=⟨_,rfl⟩;have hPW:P<W.heap.size:=by rw[hP];exact World.block_lt_of_cell? W _ p0
 have hbl:b<W.heap.size:=Nat.lt_of_lt_of_le hb hbW.size;rw[<-hP]at p0 p1 ⊢;have HBW:=zcK hbW;have HPP:=zcK hP;clear hW hbW hP c0 c1 c2 hb;go_region;obtain⟨V,hV⟩:∃V,V=(W.alloc (.cells #[.int .i64 t,.int .i64 a,.int .i64 x] 103)).drew:=⟨_,rfl⟩;obtain⟨Q,hQ⟩:∃Q,Q=W.heap.size:=⟨_,rfl⟩;rw[<-hV,<-hQ];have q0:V.cell? ⟨Q,0,none⟩=some (.int .i64 t):=by rw[hV,hQ];simp
 have q1:V.cell? ⟨Q,1,none⟩=some (.int .i64 a):=by rw[hV,hQ];simp
 have q2:V.cell? ⟨Q,2,none⟩=some (.int .i64 x):=by rw[hV,hQ];simp
 have hQV:=World.block_lt_of_cell? V _ q0;simp only at hQV;have HBV:Hid (Below w.heap.size w V):=by show Below _ _ _;rw[hV];exact(HBW.out.alloc HBW.out.size _).drew
 clear hV hQ e0 e1 e2 p0 p1 hPW hbl HBW HPP hrun hwr hi' hj hl hij
 go_upto_region 3 with(fail)
 obtain⟨U,hU⟩:∃U,U=V.alloc (.cells #[.int .i64 t,.int .i64 2,.int .i64 x] 103):=⟨_,rfl⟩;obtain⟨S,hS⟩:∃S,S=V.heap.size:=⟨_,rfl⟩;rw[<-hU,<-hS];have u0:U.cell? ⟨S,0,none⟩=some (.int .i64 t):=by rw[hU,hS];simp
 have u1:U.cell? ⟨S,1,none⟩=some (.int .i64 2):=by rw[hU,hS];simp
 have u2:U.cell? ⟨S,2,none⟩=some (.int .i64 x):=by rw[hU,hS];simp
 have hVU:Below V.heap.size V U:=by rw[hU];exact(Below.refl _ V).alloc (Nat.le_refl _) _
 have r0:=(hVU.cell (p:=⟨Q,0,none⟩) hQV).trans q0;have r1:=(hVU.cell (p:=⟨Q,1,none⟩) hQV).trans q1;have HBU:Hid (Below w.heap.size w U):=HBV.out.trans (hVU.mono HBV.out.size);have HQU:Hid (Q<U.heap.size):=Nat.lt_of_lt_of_le hQV hVU.size;clear hU hS q0 q1 q2 hVU hQV HBV;cases h1:(a == 1)with
 | false =>rw[h1]at HL;go_wp2_with fail;go_ret;exact⟨by rw[HL.out];rfl,HBU.out⟩
 | true =>
   rw[h1]at HL;cases h2:ms.contains (t,2,x)with
   | false =>rw[h2]at HL;have HC1:=zcK (HCN.out U HBU.out t 2 x);rw[h2]at HC1;clear h2 HCN;go_wp2_with fail;refine HC1.out.mono ?_;rintro e w1 ⟨rfl,hb1⟩;have HB1:Hid (Below w.heap.size w w1):=HBU.out.trans (hb1.mono HBU.out.size);clear hb1 u0 u1 u2 r0 r1;go_wp2_with fail;go_ret;exact⟨by rw[HL.out];rfl,HB1.out⟩
   | true =>rw[h2]at HL;have HC1:=zcK (HCN.out U HBU.out t 2 x);rw[h2]at HC1;clear h2;go_wp2_with fail;refine HC1.out.mono ?_;rintro e w1 ⟨rfl,hb1⟩;have HB1:Hid (Below w.heap.size w w1):=HBU.out.trans (hb1.mono HBU.out.size);have s0:=(hb1.cell (p:=⟨Q,0,none⟩) HQU.out).trans r0;have HC2:=zcK (HCN.out w1 HB1.out t 3 0);obtain⟨g,hg⟩:∃g,ms.contains (t,3,0)=g:=⟨_,rfl⟩;rw[hg]at HC2 HL;clear hb1 u0 u1 u2 r0 r1 hg HCN;go_wp2_with fail;refine HC2.out.mono ?_;rintro e w2 ⟨rfl,hb2⟩;have HB2:Hid (Below w.heap.size w w2):=HB1.out.trans (hb2.mono HB1.out.size);clear hb2 s0;go_wp2_with fail;go_ret;exact⟨by rw[HL.out];rfl,HB2.out⟩
theorem zwm(l:List Op3)(ad:Option Addr)(cap i j H:Nat)(w:World)(hI:zai w (.slice ad l.length cap) l)(hcap:l.length<=cap)(hl:l.length<=40)(hij:i<j)(hj:j<l.length)(k:w.cell? ⟨H,0,none⟩=some (.slice ad l.length cap)):Calls Tryz.prog 76 (#[.agg #[.int .i64 (i:Int),.int .i64 (j:Int)]] ++ #[.pointer (some ⟨H,0,none⟩)]) w fun e w'=>e=.returned (.bool (zfQ l ((i:Int),(j:Int))))/\Below w.heap.size w w':=by
 have HC:Hid (∀V,Below w.heap.size w V->Calls Tryz.prog 77 #[.slice ad l.length cap,.agg #[.int .i64 (i:Int),.int .i64 (j:Int)]] V fun e w'=>e=.returned (.bool (zfQ l ((i:Int),(j:Int))))/\Below V.heap.size V w'):=fun V hV=>zAh l ad cap i j V (hI.below hV (Nat.le_refl _)) hcap hl hij hj;obtain⟨g,hg⟩:∃g,zfQ l ((i:Int),(j:Int))=g:=⟨_,rfl⟩;obtain⟨n,hn⟩:∃n,l.length=n:=⟨_,rfl⟩;have l1:=World.block_lt_of_cell? w _ k;simp only at l1;rw[hg,hn]at HC;rw[hn]at k;rw[hg];clear hI hcap hl hij hj hg hn;go_enter Tryz.func76,Tryz.ntmps76
 go_upto_region 1 with(fail)
 obtain⟨W,hW⟩:∃W,W=w.alloc (.cells #[.int .i64 (i:Int),.int .i64 (j:Int)] 131):=⟨_,rfl⟩;rw[<-hW];have hbW:Below w.heap.size w W:=by rw[hW];exact(Below.refl _ w).alloc (Nat.le_refl _) _
 have p0:W.cell? ⟨w.heap.size,0,none⟩=some (.int .i64 (i:Int)):=by rw[hW];simp
 have p1:W.cell? ⟨w.heap.size,1,none⟩=some (.int .i64 (j:Int)):=by rw[hW];simp
 have k1:=(hbW.cell (p:=⟨H,0,none⟩) l1).trans k;have HBW:=zcK hbW;clear hW hbW k l1;go_wp2_with fail;refine(HC.out W HBW.out).mono ?_;rintro e w1 ⟨rfl,hb1⟩;have HB1:Hid (Below w.heap.size w w1):=HBW.out.trans (hb1.mono HBW.out.size);clear hb1 p0 p1 k1;go_wp2_with fail;go_ret;exact⟨rfl,HB1.out⟩
end Go.Proofs.YthlhgiihngcobaaGreatDoor
namespace Go.Proofs.YthlhgiihngcobaaGreatDoor
open Go.RowKit
theorem zum{l:List Op3}:∀e∈openL l,∃i j:Nat,i<j/\j<l.length/\e=((i:Int),(j:Int)):=fun e he=>by obtain⟨i,j,h1,h2,_,h3⟩:=zbv.1 (List.mem_filter.1 he).1;exact⟨i,j,h1,h2,h3⟩
theorem zwd{w:World}{v:Value}{es:List zab}(h:zaj w v es):∃ad cap,v=.slice ad es.length cap:=by obtain⟨ad,_,_,cap,hv,_⟩:=h;exact⟨ad,cap,hv⟩
end Go.Proofs.YthlhgiihngcobaaGreatDoor
namespace Go.Proofs.YthlhgiihngcobaaGreatDoor
open Go.RowKit
theorem zfp{P:Program}{fn:Func}{p q:Tmp}{ty:TypeId}(h:fn.results=#[.cell p ty,.tmp q])(tmps:Array Value)(w:World)(g:Nat)(t:TypeId)(cs:Array Value)(fr:Nat × Nat)(d:TypeDesc)(v:Value)
  (hp:tmps.getD p undef=.pointer (some ⟨g,0,none⟩)) (hq:tmps.getD q undef=v) (hg:w.heap[g]? = some (.cells cs t fr))
  (hu:P.underlying ty=some d) (hd:(match d with | .struct _ | .array _ _=>true | _=>false)=true) (hi:(P.info? ty).map (·.size)=some cs.size) :
  (results fn tmps).run P w=.ok (.tuple #[.agg cs,v]) w:=by
 have hp':tmps[p]?.getD undef=.pointer (some ⟨g,0,none⟩):=by simpa using hp
 have hq':tmps[q]?.getD undef=v:=by simpa using hq
 simp[results,h,hp',hq',asAddr,run_loadVar_row w g t ty cs fr d hg hu hd hi]
def zcx(w:World)(b:Nat)(p q r s:Bool):Prop:=w.heap[b]? = some (.cells #[.bool p,.bool q,.bool r,.bool s] 67 (0,0))
theorem zcx.lt{w:World}{b:Nat}{p q r s:Bool}(h:zcx w b p q r s):b<w.heap.size:=by have h':w.heap[b]? = some _:=h;exact(Array.getElem?_eq_some_iff.1 h').1
theorem zcx.below{w w1:World}{b B:Nat}{p q r s:Bool}(h:zcx w b p q r s)(hb:Below B w w1)(hB:b<B):zcx w1 b p q r s:=(hb.block b hB).trans h
theorem zcx.cells{w:World}{b:Nat}{p q r s:Bool}(h:zcx w b p q r s):w.cell? ⟨b,0,none⟩=some (.bool p)/\w.cell? ⟨b,1,none⟩=some (.bool q)/\w.cell? ⟨b,2,none⟩=some (.bool r)/\w.cell? ⟨b,3,none⟩=some (.bool s) :=⟨by rw[cell_of_row w b _ _ _ _ h];rfl,by rw[cell_of_row w b _ _ _ _ h];rfl,by rw[cell_of_row w b _ _ _ _ h];rfl,by rw[cell_of_row w b _ _ _ _ h];rfl⟩
theorem zcx.thaw{w:World}{b:Nat}{p q r s:Bool}(h:zcx w b p q r s)(k:Nat):w.frozen? ⟨b,k,none⟩=false:=by have h':w.heap[b]? = some _:=h;simp[World.frozen?,h']
theorem zcx.put{w:World}{b:Nat}{p q r s:Bool}(h:zcx w b p q r s)(p1 q1 r1 s1:Bool):zcx ((((w.setCell ⟨b,0,none⟩ (.bool p1)).setCell ⟨b,1,none⟩ (.bool q1)).setCell ⟨b,2,none⟩ (.bool r1)).setCell ⟨b,3,none⟩ (.bool s1)) b p1 q1 r1 s1:=by have h':w.heap[b]? = some (.cells #[.bool p,.bool q,.bool r,.bool s] 67 (0,0)):=h;unfold zcx World.setCell;simp[Array.getElem?_modify,h']
theorem zsw(w:World)(p q r s:Bool):zcx (w.alloc (.cells #[.bool p,.bool q,.bool r,.bool s] 67)) w.heap.size p q r s:=by unfold zcx World.alloc;simp
theorem zoX:(Tryz.prog.info? 67).map (·.size)=some 4:=by kernel_rfl
theorem zeI{P:Program}{ops:Array Oper}{o:Oper}{a:Act}{w:World}{K:Act->World->Prop}{Q:Exit->Act->World->Prop}{E:Prop}
  (hgd:o.guard=none) (f x y:Operand) (T:Array TypeId) (ho:o.op=.call { callee:=.value f,args:=#[x,y],argTypes:=T })
  (N:FuncId) (C:Array Value) (hf:a.eval f=.func (.func N) #[] C) (v1:Value) (hx:a.eval x=v1) (v2:Value) (hy:a.eval y=v2) (hent:∀args W,(callFunc N args).run P W=.ok (.enter N args) W) (v:Value) (R:World->Prop)
  (hc:Calls P N (#[v1,v2]++C) w fun e w'=>e=.returned v/\R w') (h:∀w',R w'->K (a.put o.dst v) w') :
  if Region.wanted o (yielded ops a.tmps)=true then Oper.wp P o a w K Q else E:=by
 have hw:Region.wanted o (yielded ops a.tmps)=true:=by simp[Region.wanted,hgd]
 rw[if_pos hw];have hrun:(execOp a.eval o).run P w=.ok (.enter N (#[v1,v2]++C)) w:=by simp[execOp,ho,resolve,hf,hx,hy,Deferred.ofValue,invoke,hent]
 unfold Oper.wp;rw[hrun];show Calls P N (#[v1,v2]++C) w _;refine hc.mono ?_;rintro e w' ⟨rfl,hR⟩;exact h w' hR
theorem zzH(l:List Op3)(ad:Option Addr)(cap:Nat)(w:World)(h:zai w (.slice ad l.length cap) l)(hc:(chk l).2≠0):Calls Tryz.prog 27 #[.slice ad l.length cap] w fun e w'=>e=.returned (.tuple #[.agg #[.bool false,.bool false,.bool false,.bool false],.iface 80 (.int .i64 (chk l).2)])/\Below w.heap.size w w':=by
 have HOP:Hid (∀W,Below w.heap.size w W->Calls Tryz.prog 73 #[.slice ad l.length cap] W fun e w'=>e=.returned (.tuple #[.slice none 0 0,.iface 80 (.int .i64 (chk l).2)])/\Below W.heap.size W w'):=fun W hW=>zkf l _ W (h.below hW (Nat.le_refl _)) hc;obtain⟨m,hm⟩:∃m,(chk l).2=m:=⟨_,rfl⟩;rw[hm]at HOP ⊢;clear hm hc h;go_enter Tryz.func27,Tryz.ntmps27
 go_upto_region 1 with(fail)
 obtain⟨W,hW⟩:∃W,W=(w.alloc (.cells #[.slice ad l.length cap] 28)).alloc (.cells #[.bool false,.bool false,.bool false,.bool false] 67):=⟨_,rfl⟩;have hs1:(w.alloc (.cells #[.slice ad l.length cap] 28)).heap.size=w.heap.size+1:=by simp
 have HF:Hid (zcx W (w.heap.size+1) false false false false):=by show zcx W _ _ _ _ _;rw[hW,<-hs1];exact zsw _ _ _ _ _
 have p0:W.cell? ⟨w.heap.size,0,none⟩=some (.slice ad l.length cap):=by rw[hW];simp
 have HBW:Hid (Below w.heap.size w W):=by show Below _ _ _;rw[hW];exact((Below.refl _ w).alloc (Nat.le_refl _) _).alloc (by simp) _
 rw[<-hW];clear hW hs1;go_wp2_with fail;refine(HOP.out W HBW.out).mono ?_;rintro e w1 ⟨rfl,hb1⟩;have HF1:Hid (zcx w1 (w.heap.size+1) false false false false):=HF.out.below hb1 HF.out.lt;have HB1:Hid (Below w.heap.size w w1):=HBW.out.trans (hb1.mono HBW.out.size);clear hb1 p0
 go_upto_region 3 with(fail)
 obtain⟨V,hV⟩:∃V,V=w1.alloc (.cells #[.slice none 0 0] 89):=⟨_,rfl⟩;rw[<-hV];have hbV:Below w1.heap.size w1 V:=by rw[hV];exact(Below.refl _ w1).alloc (Nat.le_refl _) _
 have HF2:Hid (zcx V (w.heap.size+1) false false false false):=HF1.out.below hbV HF1.out.lt;have HB2:Hid (Below w.heap.size w V):=HB1.out.trans (hbV.mono HB1.out.size);obtain⟨z0,z1,z2,z3⟩:=HF2.out.cells;have y0:=HF2.out.thaw 0;have y1:=HF2.out.thaw 1;have y2:=HF2.out.thaw 2;have y3:=HF2.out.thaw 3;clear hV hbV;go_wp2_with fail;refine bodyPost_ret (v:=.tuple #[.agg #[.bool false,.bool false,.bool false,.bool false],.iface 80 (.int .i64 m)]) (zfp Tryz.results27 _ _ (w.heap.size+1) 67 #[.bool false,.bool false,.bool false,.bool false] (0,0) _ _ rfl rfl (HF2.out.put _ _ _ _) Tryz.underlying67 rfl zoX) rfl ⟨rfl,?_⟩;exact(((HB2.out.setCell (by simp) _).setCell (by simp) _).setCell (by simp) _).setCell (by simp) _
theorem zA5(l:List Op3)(ad:Option Addr)(cap:Nat)(w:World)(h:zai w (.slice ad l.length cap) l)(hcap:l.length<=cap)(hc:(chk l).2=0):Calls Tryz.prog 27 #[.slice ad l.length cap] w fun e w'=>e=.returned (.tuple #[.agg #[.bool ((openL l).any (zcO l 2 2)),.bool ((openL l).any (zcO l 2 1)),.bool ((openL l).any (zcO l 1 2)),.bool ((openL l).any (zfQ l))],.nilIface])/\Below w.heap.size w w':=by
 have hl:=zaQ hc;have HI:Hid (∀W,Below w.heap.size w W->zai W (.slice ad l.length cap) l):=fun W hW=>h.below hW (Nat.le_refl _);have HOP:Hid (∀W,Below w.heap.size w W->Calls Tryz.prog 73 #[.slice ad l.length cap] W fun e w'=>∃v',e=.returned (.tuple #[v',.nilIface])/\zaj w' v' (openL l)/\Below W.heap.size W w'):=fun W hW=>zmg l ad cap W (HI.out W hW) hcap hc;have HLEN:Hid ((openL l).length<=1600/\l.length<=40/\l.length<=cap):=⟨zmS hl,hl,hcap⟩;have hentc:∀(args:Array Value) (W:World),(callFunc 72 args).run Tryz.prog W=.ok (.enter 72 args) W:=fun _ _=>by kernel_rfl
 have HENC:=zcK hentc;have HENH:=zcK zw8;clear h hc hl hcap hentc;go_enter Tryz.func27,Tryz.ntmps27
 go_upto_region 1 with(fail)
 obtain⟨W,hW⟩:∃W,W=(w.alloc (.cells #[.slice ad l.length cap] 28)).alloc (.cells #[.bool false,.bool false,.bool false,.bool false] 67):=⟨_,rfl⟩;have hs1:(w.alloc (.cells #[.slice ad l.length cap] 28)).heap.size=w.heap.size+1:=by simp
 have HF:Hid (zcx W (w.heap.size+1) false false false false):=by show zcx W _ _ _ _ _;rw[hW,<-hs1];exact zsw _ _ _ _ _
 have p0:W.cell? ⟨w.heap.size,0,none⟩=some (.slice ad l.length cap):=by rw[hW];simp
 have HBW:Hid (Below w.heap.size w W):=by show Below _ _ _;rw[hW];exact((Below.refl _ w).alloc (Nat.le_refl _) _).alloc (by simp) _
 have hHW:=World.block_lt_of_cell? W _ p0;simp only at hHW;rw[<-hW];clear hW hs1;go_wp2_with fail;refine(HOP.out W HBW.out).mono ?_;rintro e w1 ⟨v,rfl,hE,hb1⟩;obtain⟨qad,qcap,rfl⟩:=zwd hE;have HE:=zcK hE;have HW1:=zcK hb1;have r0:=(hb1.cell (p:=⟨w.heap.size,0,none⟩) hHW).trans p0;have HR0:=zcK r0;have HH1:Hid (w.heap.size<w1.heap.size):=Nat.lt_of_lt_of_le hHW hb1.size;have HF1:Hid (zcx w1 (w.heap.size+1) false false false false):=HF.out.below hb1 HF.out.lt;have HB1:Hid (Below w.heap.size w w1):=HBW.out.trans (hb1.mono HBW.out.size);obtain⟨qn,hqn⟩:∃qn,(openL l).length=qn:=⟨_,rfl⟩;rw[hqn]at HE ⊢;clear hE hb1 r0 p0 hHW hqn
 go_upto_region 5 with(fail)
 obtain⟨V,hV⟩:∃V,V=w1.alloc (.cells #[.slice qad qn qcap] 89):=⟨_,rfl⟩;obtain⟨O,hO⟩:∃O,O=w1.heap.size:=⟨_,rfl⟩;rw[<-hV,<-hO];have o0:V.cell? ⟨O,0,none⟩=some (.slice qad qn qcap):=by rw[hV,hO];simp
 have hOV:=World.block_lt_of_cell? V _ o0;simp only at hOV;have hbV:Below w1.heap.size w1 V:=by rw[hV];exact(Below.refl _ w1).alloc (Nat.le_refl _) _
 have HFV:Hid (zcx V (w.heap.size+1) false false false false):=HF1.out.below hbV HF1.out.lt;have hFV:=HFV.out.lt;have HBV:Hid (Below w.heap.size w V):=HB1.out.trans (hbV.mono HB1.out.size);have HEV:Hid (zaj V (.slice qad qn qcap) (openL l)):=HE.out.below hbV (Nat.le_refl _);have g0:=(hbV.cell (p:=⟨w.heap.size,0,none⟩) HH1.out).trans HR0.out;have HG0:=zcK g0;have HHV:Hid (w.heap.size<V.heap.size):=Nat.lt_of_lt_of_le HH1.out hbV.size;have HO0:=zcK o0;have HOV:=zcK hOV;have HIV:Hid (∀W',Below V.heap.size V W'->zai W' (.slice ad l.length cap) l):=fun W' hW'=>HI.out W' (HBV.out.trans (hW'.mono HBV.out.size));clear hV hO hbV g0 HF1 HB1 HE HR0 HH1 HW1 HF HBW HI HOP;obtain⟨a1,ha1⟩:∃b,(openL l).any (zcO l 2 2)=b:=⟨_,rfl⟩;obtain⟨a2,ha2⟩:∃b,(openL l).any (zcO l 2 1)=b:=⟨_,rfl⟩;obtain⟨a3,ha3⟩:∃b,(openL l).any (zcO l 1 2)=b:=⟨_,rfl⟩;obtain⟨a4,ha4⟩:∃b,(openL l).any (zfQ l)=b:=⟨_,rfl⟩;have HAS:Hid (∀W',Below V.heap.size V W'->∀p q:Int,Calls Tryz.prog 74 (#[.int .i64 p,.int .i64 q] ++ #[.pointer (some ⟨O,0,none⟩),.pointer (some ⟨w.heap.size,0,none⟩)]) W' fun e w'=>e=.returned (.bool ((openL l).any (zcO l p q)))/\Below V.heap.size V w'):=fun W' hW' p q =>(zBi l (openL l) (.slice qad qn qcap) ad cap w.heap.size O p q W' (HIV.out W' hW') (HEV.out.below hW' (Nat.le_refl _)) HLEN.out.1 zum ((hW'.cell (p:=⟨w.heap.size,0,none⟩) HHV.out).trans HG0.out) ((hW'.cell (p:=⟨O,0,none⟩) HOV.out).trans HO0.out)).mono fun e w' ⟨h1,h2⟩=>⟨h1,hW'.trans (h2.mono hW'.size)⟩;have HC1:Hid (∀W',Below V.heap.size V W'->Calls Tryz.prog 74 (#[.int .i64 2,.int .i64 2] ++ #[.pointer (some ⟨O,0,none⟩),.pointer (some ⟨w.heap.size,0,none⟩)]) W' fun e w'=>e=.returned (.bool a1)/\Below V.heap.size V w'):=fun W' hW'=>by rw[<-ha1];exact HAS.out W' hW' 2 2
 have HC2:Hid (∀W',Below V.heap.size V W'->Calls Tryz.prog 74 (#[.int .i64 2,.int .i64 1] ++ #[.pointer (some ⟨O,0,none⟩),.pointer (some ⟨w.heap.size,0,none⟩)]) W' fun e w'=>e=.returned (.bool a2)/\Below V.heap.size V w'):=fun W' hW'=>by rw[<-ha2];exact HAS.out W' hW' 2 1
 have HC3:Hid (∀W',Below V.heap.size V W'->Calls Tryz.prog 74 (#[.int .i64 1,.int .i64 2] ++ #[.pointer (some ⟨O,0,none⟩),.pointer (some ⟨w.heap.size,0,none⟩)]) W' fun e w'=>e=.returned (.bool a3)/\Below V.heap.size V w'):=fun W' hW'=>by rw[<-ha3];exact HAS.out W' hW' 1 2
 have HC4:Hid (∀W',Below V.heap.size V W'->Calls Tryz.prog 72 (#[.slice qad qn qcap,.func (.func 76) #[] #[.pointer (some ⟨w.heap.size,0,none⟩)]] ++ #[]) W' fun e w'=>e=.returned (.bool a4)/\Below V.heap.size V w'):=fun W' hW'=>by rw[<-ha4];refine(zbA (openL l) (.slice qad qn qcap) (zfQ l) 76 #[.pointer (some ⟨w.heap.size,0,none⟩)] W' ztJ (HEV.out.below hW' (Nat.le_refl _)) (by have:=HLEN.out.1;omega) (fun W2 hW2 e he=>?_)).mono fun e w' ⟨h1,h2⟩=>⟨h1,hW'.trans (h2.mono hW'.size)⟩;have hV2:Below V.heap.size V W2:=hW'.trans (hW2.mono hW'.size);obtain⟨i,j,hij,hj,rfl⟩:=zum e he;exact zwm l ad cap i j w.heap.size W2 (HIV.out W2 hV2) HLEN.out.2.2 HLEN.out.2.1 hij hj ((hV2.cell (p:=⟨w.heap.size,0,none⟩) HHV.out).trans HG0.out)
 have HEQ:Hid ((openL l).any (zcO l 2 2)=a1/\(openL l).any (zcO l 2 1)=a2/\(openL l).any (zcO l 1 2)=a3/\(openL l).any (zfQ l)=a4):=⟨ha1,ha2,ha3,ha4⟩;have hW0:Below V.heap.size V V.drew:=(Below.refl _ V).drew;clear ha1 ha2 ha3 ha4 HAS HIV HLEN HHV HG0 HO0 HOV HEV
 go_region_law (first | (refine zeI rfl (.tmp 17) (.const (.int .i64 2)) (.const (.int .i64 2)) _ rfl 74 #[.pointer (some ⟨O,0,none⟩),.pointer (some ⟨w.heap.size,0,none⟩)] (by simp[Act.eval,Act.put]) (.int .i64 2) rfl (.int .i64 2) rfl HENH.out (.bool a1) (fun w'=>Below V.heap.size V w') (HC1.out _ (by assumption)) ?_;intro W1 hW1;have l1:=(hW1.cell (p:=⟨O,0,none⟩) hOV).trans o0) | (refine zeI rfl (.tmp 19) (.const (.int .i64 2)) (.const (.int .i64 1)) _ rfl 74 #[.pointer (some ⟨O,0,none⟩),.pointer (some ⟨w.heap.size,0,none⟩)] (by simp[Act.eval]) (.int .i64 2) rfl (.int .i64 1) rfl HENH.out (.bool a2) (fun w'=>Below V.heap.size V w') (HC2.out _ (by assumption)) ?_;intro W2 hW2;have l2:=(hW2.cell (p:=⟨O,0,none⟩) hOV).trans o0) | (refine zeI rfl (.tmp 21) (.const (.int .i64 1)) (.const (.int .i64 2)) _ rfl 74 #[.pointer (some ⟨O,0,none⟩),.pointer (some ⟨w.heap.size,0,none⟩)] (by simp[Act.eval]) (.int .i64 1) rfl (.int .i64 2) rfl HENH.out (.bool a3) (fun w'=>Below V.heap.size V w') (HC3.out _ (by assumption)) ?_;intro W3 hW3;have l3:=(hW3.cell (p:=⟨O,0,none⟩) hOV).trans o0) | (refine zeI rfl (.func 72) (.tmp 23) (.tmp 24) _ rfl 72 #[] rfl (.slice qad qn qcap) (by simp[Act.eval]) (.func (.func 76) #[] #[.pointer (some ⟨w.heap.size,0,none⟩)]) (by simp[Act.eval]) HENC.out (.bool a4) (fun w'=>Below V.heap.size V w') (HC4.out _ (by assumption)) ?_;intro W4 hW4;have HF4:=HFV.out.below hW4 hFV;obtain⟨z0,z1,z2,z3⟩:=HF4.cells;have y0:=HF4.thaw 0;have y1:=HF4.thaw 1;have y2:=HF4.thaw 2;have y3:=HF4.thaw 3))
 all_goals
  go_wp2_with fail;refine bodyPost_ret (v:=.tuple #[.agg #[.bool a1,.bool a2,.bool a3,.bool a4],.nilIface]) (zfp Tryz.results27 _ _ (w.heap.size+1) 67 #[.bool a1,.bool a2,.bool a3,.bool a4] (0,0) _ _ rfl rfl (HF4.put _ _ _ _) Tryz.underlying67 rfl zoX) rfl ⟨?_,?_⟩
  ·rw[HEQ.out.1,HEQ.out.2.1,HEQ.out.2.2.1,HEQ.out.2.2.2]
  ·exact((((HBV.out.trans (hW4.mono HBV.out.size)).setCell (by simp) _).setCell (by simp) _).setCell (by simp) _).setCell (by simp) _
theorem zz5:zz7:=by
 intro l ad cap w h hcap;by_cases hc:(chk l).2=0
 ·refine(zA5 l ad cap w h hcap hc).mono fun e w' ⟨he,hw⟩=>⟨?_,hw⟩;have h1:(openL l).any (zcO l 2 2)=ze6 (zBW l) l.length:=zkv hc (.inl rfl);have h2:(openL l).any (zcO l 2 1)=ze6 (zBY l) l.length:=zkv hc (.inl rfl);have h3:(openL l).any (zcO l 1 2)=ze6 (zBT l) l.length:=zkv hc (.inr rfl);have h4:=zxU hc;have hU:zly l=(ze6 (zBW l) l.length,ze6 (zBY l) l.length,ze6 (zBT l) l.length,zzO l l.length):=by unfold zly zin;rw[if_neg (by rw[hc];decide)]
  rw[he,h1,h2,h3,h4,hU,hc];rfl
 ·refine(zzH l ad cap w h hc).mono fun e w' ⟨he,hw⟩=>⟨?_,hw⟩;have hU:zly l=(false,false,false,false):=by unfold zly;rw[if_pos hc]
  rw[he,hU];unfold zeH;rw[if_neg hc];rfl
end Go.Proofs.YthlhgiihngcobaaGreatDoor
namespace Go.Proofs.YthlhgiihngcobaaGreatDoor
open Go.RowKit
def zda(F C S:Nat->Int)(sv:Value)(k:Nat):Value:=if k<7 then .int .i64 (F k)else if k<14 then .int .i64 (C (k-7))else if k<21 then .int .i64 (S (k-14))else sv
def cells22(F C S:Nat->Int)(sv:Value):Array Value:=((List.range 22).map (zda F C S sv)).toArray
theorem zbS(F C S:Nat->Int)(sv:Value):(cells22 F C S sv).size=22:=by simp[cells22]
theorem zgB(F C S:Nat->Int)(sv:Value)(k:Nat)(h:k<22):(cells22 F C S sv)[k]? = some (zda F C S sv k):=by simp[cells22,h]
def zdv(f:Nat->Int)(m:Nat)(x:Int):Nat->Int:=fun j=>if j=m then x else f j
theorem zdu{F C S F' C' S':Nat->Int}{sv sv' u:Value}{p:Nat}(hp:p<22)(hh:zda F' C' S' sv' p=u)(he:∀k,k<22->k≠p->zda F' C' S' sv' k=zda F C S sv k):(cells22 F C S sv).setIfInBounds p u=cells22 F' C' S' sv':=by
 refine Array.ext_getElem? fun j=>?_;by_cases hj:j<22
 ·rw[zgB _ _ _ _ j hj,Array.getElem?_setIfInBounds,zbS,zgB _ _ _ _ j hj];by_cases e:p=j
  ·subst e;rw[if_pos rfl,if_pos hp,hh]
  ·rw[if_neg e,he j hj (fun h=>e h.symm)]
 ·rw[Array.getElem?_eq_none (by simp[zbS];omega),Array.getElem?_eq_none (by simp[zbS];omega)]
theorem zlz(F C S:Nat->Int)(sv:Value){m:Nat}(hm:m<7)(x:Int):(cells22 F C S sv).setIfInBounds m (.int .i64 x)=cells22 (zdv F m x) C S sv:=by refine zdu (by omega) (by simp[zda,zdv,hm]) fun k hk hne=>?_;unfold zda zdv;rw[if_neg hne]
theorem zkd(F C S:Nat->Int)(sv:Value){m:Nat}(hm:m<7)(x:Int):(cells22 F C S sv).setIfInBounds (7+m) (.int .i64 x)=cells22 F (zdv C m x) S sv:=by
 refine zdu (by omega) ?_ fun k hk hne=>?_
 ·unfold zda zdv;rw[if_neg (by omega),if_pos (by omega),if_pos (by omega)]
 ·unfold zda zdv;by_cases h7:k<7
  ·rw[if_pos h7,if_pos h7]
  ·rw[if_neg h7,if_neg h7,if_neg (show ¬k-7=m by omega)]
theorem zn4(F C S:Nat->Int)(sv:Value){m:Nat}(hm:m<7)(x:Int):(cells22 F C S sv).setIfInBounds (14+m) (.int .i64 x)=cells22 F C (zdv S m x) sv:=by
 refine zdu (by omega) ?_ fun k hk hne=>?_
 ·unfold zda zdv;rw[if_neg (by omega),if_neg (by omega),if_pos (by omega),if_pos (by omega)]
 ·unfold zda zdv;by_cases h7:k<14
  ·by_cases h8:k<7
   ·rw[if_pos h8,if_pos h8]
   ·rw[if_neg h8,if_neg h8,if_pos h7,if_pos h7]
  ·have h8:¬k<7:=by omega
   rw[if_neg h8,if_neg h8,if_neg h7,if_neg h7,if_neg (show ¬k-14=m by omega)]
theorem zlE(F C S:Nat->Int)(sv u:Value):(cells22 F C S sv).setIfInBounds 21 u=cells22 F C S u:=by
 refine zdu (by omega) (by unfold zda;rw[if_neg (by omega),if_neg (by omega),if_neg (by omega)]) fun k hk hne=>?_;unfold zda;by_cases h1:k<7
 ·rw[if_pos h1,if_pos h1]
 ·by_cases h2:k<14
  ·rw[if_neg h1,if_neg h1,if_pos h2,if_pos h2]
  ·rw[if_neg h1,if_neg h1,if_neg h2,if_neg h2,if_pos (by omega),if_pos (by omega)]
def zam(w:World)(B:Nat)(F C S:Nat->Int)(sv:Value):Prop:=w.heap[B]? = some (.cells (cells22 F C S sv) 138 (0,0))
theorem zam.lt{w:World}{B:Nat}{F C S:Nat->Int}{sv:Value}(h:zam w B F C S sv):B<w.heap.size:=by have h':w.heap[B]? = some _:=h;exact(Array.getElem?_eq_some_iff.1 h').1
theorem zam.cell{w:World}{B:Nat}{F C S:Nat->Int}{sv:Value}(h:zam w B F C S sv){k:Nat}(hk:k<22):w.cell? ⟨B,k,none⟩=some (zda F C S sv k):=by rw[cell_of_row w B _ _ _ _ h,zgB _ _ _ _ k hk]
theorem zam.item{w:World}{B:Nat}{F C S:Nat->Int}{sv:Value}(h:zam w B F C S sv){k:Nat}(hk:k<7):w.cell? ⟨B,k,none⟩=some (.int .i64 (F k)):=by rw[h.cell (by omega)];unfold zda;rw[if_pos hk]
theorem zam.count{w:World}{B:Nat}{F C S:Nat->Int}{sv:Value}(h:zam w B F C S sv){k:Nat}(hk:k<7):w.cell? ⟨B,7+k,none⟩=some (.int .i64 (C k)):=by rw[h.cell (by omega)];unfold zda;rw[if_neg (by omega),if_pos (by omega),show 7+k-7=k by omega]
theorem zam.sum{w:World}{B:Nat}{F C S:Nat->Int}{sv:Value}(h:zam w B F C S sv){k:Nat}(hk:k<7):w.cell? ⟨B,14+k,none⟩=some (.int .i64 (S k)):=by rw[h.cell (by omega)];unfold zda;rw[if_neg (by omega),if_neg (by omega),if_pos (by omega),show 14+k-14=k by omega]
theorem zam.seen{w:World}{B:Nat}{F C S:Nat->Int}{sv:Value}(h:zam w B F C S sv):w.cell? ⟨B,21,none⟩=some sv:=by rw[h.cell (by omega)];unfold zda;rw[if_neg (by omega),if_neg (by omega),if_neg (by omega)]
theorem zam.thaw{w:World}{B:Nat}{F C S:Nat->Int}{sv:Value}(h:zam w B F C S sv)(k:Nat):w.frozen? ⟨B,k,none⟩=false:=by have h':w.heap[B]? = some _:=h;simp[World.frozen?,h']
theorem zam.same{w w':World}{B:Nat}{F C S:Nat->Int}{sv:Value}(h:zam w B F C S sv)(hb:w'.heap[B]? = w.heap[B]?):zam w' B F C S sv:=hb.trans h
theorem zam.below{w w1:World}{B n:Nat}{F C S:Nat->Int}{sv:Value}(h:zam w B F C S sv)(hb:Below n w w1)(hB:B<n):zam w1 B F C S sv:=(hb.block B hB).trans h
theorem zam.setItem{w:World}{B:Nat}{F C S:Nat->Int}{sv:Value}(h:zam w B F C S sv){m:Nat}(hm:m<7)(x:Int):zam (w.setCell ⟨B,m,none⟩ (.int .i64 x)) B (zdv F m x) C S sv:=by have h':w.heap[B]? = some (.cells (cells22 F C S sv) 138 (0,0)):=h;unfold zam World.setCell;simp[Array.getElem?_modify,h',zlz F C S sv hm x]
theorem zam.setCount{w:World}{B:Nat}{F C S:Nat->Int}{sv:Value}(h:zam w B F C S sv){m:Nat}(hm:m<7)(x:Int):zam (w.setCell ⟨B,7+m,none⟩ (.int .i64 x)) B F (zdv C m x) S sv:=by have h':w.heap[B]? = some (.cells (cells22 F C S sv) 138 (0,0)):=h;unfold zam World.setCell;simp[Array.getElem?_modify,h',zkd F C S sv hm x]
theorem zam.setSum{w:World}{B:Nat}{F C S:Nat->Int}{sv:Value}(h:zam w B F C S sv){m:Nat}(hm:m<7)(x:Int):zam (w.setCell ⟨B,14+m,none⟩ (.int .i64 x)) B F C (zdv S m x) sv:=by have h':w.heap[B]? = some (.cells (cells22 F C S sv) 138 (0,0)):=h;unfold zam World.setCell;simp[Array.getElem?_modify,h',zn4 F C S sv hm x]
theorem zam.setSeen{w:World}{B:Nat}{F C S:Nat->Int}{sv:Value}(h:zam w B F C S sv)(u:Value):zam (w.setCell ⟨B,21,none⟩ u) B F C S u:=by have h':w.heap[B]? = some (.cells (cells22 F C S sv) 138 (0,0)):=h;unfold zam World.setCell;simp[Array.getElem?_modify,h',zlE F C S sv u]
theorem zf6(w:World)(F C S:Nat->Int)(sv:Value):zam (w.alloc (.cells (cells22 F C S sv) 138)) w.heap.size F C S sv:=by unfold zam World.alloc;simp
theorem zrY:(Tryz.prog.info? 138).map (·.size)=some 22:=by kernel_rfl
theorem zdD(F C S:Nat->Int)(sv:Value):(Tryz.prog.info? 138).map (·.size)=some (cells22 F C S sv).size:=by rw[zbS];exact zrY
def cntB(d:List Op3)(k:Nat):Nat->Int:=fun j=>((ofL (d.take k) (j:Int)).length:Int)
def zf8(d:List Op3)(k:Nat):Nat->Int:=fun j=>zhn d k (j:Int)
def itB(d:List Op3)(k:Nat):Nat->Int:=fun j=>zh3 d k (j:Int)
theorem zlK{d:List Op3}{k t:Nat}(hk:k<d.length)(ht:(opAt d k).1=(t:Int)):cntB d (k+1)=zdv (cntB d k) t (cntB d k t+1):=by
 funext j
 unfold cntB zdv;rw[zj5 hk,ht];by_cases e:j=t
 ·subst e;rw[if_pos rfl,if_pos rfl];omega
 ·rw[if_neg (by omega),if_neg e];rfl
theorem zts{d:List Op3}{k t:Nat}(h1:(opAt d k).2.1=1)(ht:(opAt d k).1=(t:Int)):zf8 d (k+1)=zdv (zf8 d k) t (zf8 d k t+zoa d k):=by
 funext j
 unfold zf8 zdv;by_cases e:j=t
 ·subst e;rw[if_pos rfl,zk5 h1 ht]
 ·rw[if_neg e,zgy (by rw[ht];omega)]
theorem zmv{d:List Op3}{k:Nat}(h1:(opAt d k).2.1≠1):zf8 d (k+1)=zf8 d k:=by
 funext j
 unfold zf8;rw[zgy fun hh=>h1 hh.1]
theorem ztC{d:List Op3}{k m:Nat}(h1:(opAt d k).2.1=2)(hm:(opAt d k).2.2=(m:Int)):itB d (k+1)=zdv (itB d k) m (wrote d k):=by
 funext j
 unfold itB zdv;by_cases e:j=m
 ·subst e;rw[if_pos rfl,zk4 h1 hm]
 ·rw[if_neg e,zga (by omega)]
theorem zjQ{d:List Op3}{k:Nat}(h1:(opAt d k).2.1≠2):itB d (k+1)=itB d k:=by
 funext j
 unfold itB;rw[zga fun hh=>h1 hh.1]
theorem zgs{w:World}{base e size n:Nat}{v:Value}{xs:List Value}(h:w.ownsRow base e size v n xs):∃ad m c,v=.slice ad m c:=by
 obtain⟨_,⟨hv,_⟩ | ⟨g,c,cur,hv,_⟩⟩:=h
 ·exact⟨_,_,_,hv⟩
 ·exact⟨_,_,_,hv⟩
theorem zam.grown{w w2:World}{B e size n:Nat}{F C S:Nat->Int}{sv v:Value}{xs:List Value}{o:Obj}(h:zam w B F C S sv)(hown:w.ownsRow (B+1) e size v n xs)(hgr:(w.drew.alloc o).grownBy w2 v.ownBlock):zam w2 B F C S sv:=by have hl:=h.lt;refine h.same ((hgr.block B (by simp;omega) (fun he=>?_)).trans (((Below.refl _ w).alloc (Nat.le_refl _) _).block _ hl));have:=(hown.lt _ he.symm).1;omega
def zfu(w:World)(B:Nat)(d:List Op3)(k:Nat):Prop:=∃sv:Value,zam w B (itB d k) (cntB d k) (zf8 d k) sv/\w.ownsRow (B+1) 3 1 sv (zaS d k).length ((zaS d k).map (Value.int .i64))
theorem ztu(d:List Op3)(k:Nat)(B:Nat)(t a x:Int)(w:World)(hP:zfu w B d k)(hk:k<d.length)(hl:d.length<=40)(ho:opAt d k=(t,a,x))(hop:isOpB (t,a,x)=true):Calls Tryz.prog 137 #[.pointer (some ⟨B,0,none⟩),.agg #[.int .i64 t,.int .i64 a,.int .i64 x]] w fun e w'=>e=.returned (.tuple #[])/\zfu w' B d (k+1)/\Below B w w':=by
 obtain⟨ht1,ht6⟩:=zvM hop;simp only at ht1 ht6;obtain⟨tn,rfl⟩:∃n:Nat,t=n:=⟨t.toNat,by omega⟩;have HO:Hid (opAt d k=((tn:Int),a,x)):=ho;have HIS:Hid (isOpB ((tn:Int),a,x)=true):=hop;clear ho hop;have ht7:(tn:Int)<7:=by omega
 obtain⟨cn,hcn⟩:∃cn:Nat,(ofL (d.take k) (tn:Int)).length=cn:=⟨_,rfl⟩;have hcn40:cn<=40:=by rw[<-hcn];have h1:=List.length_filter_le (fun o:Op3=>o.1 == (tn:Int)) (d.take k);have h2:(d.take k).length<=k:=List.length_take_le _ _;unfold ofL;omega
 have HCN:Hid (cntB d k tn=cn/\nthAt d k=cn):=⟨by unfold cntB;rw[hcn],by unfold nthAt;rw[HO.out];exact hcn⟩;clear hcn;obtain⟨sv,hBA,hown⟩:=hP;obtain⟨n1,hn1⟩:∃n1,(zaS d k).length=n1:=⟨_,rfl⟩;have hn1b:n1<=40:=by rw[<-hn1];have:=zqj d k;omega
 have HN1:Hid ((zaS d k).length=n1):=hn1;rw[hn1]at hown;obtain⟨i0,hi,hz0,hs0,hy0⟩:=info_parts zbK;have HI:Hid (Tryz.prog.info? 3=some i0/\i0.zero=some (.int .i64 0)/\i0.size=1/\i0.bytes=8):=⟨hi,hz0,hs0,hy0⟩;clear hn1 hi hz0 hs0 hy0;obtain⟨ad,len,cap,rfl⟩:=zgs hown;have hBl:=hBA.lt;go_enter Tryz.func137,Tryz.ntmps137
 go_upto_region 1 with(fail)
 obtain⟨W,hW⟩:∃W,W=w.alloc (.cells #[.int .i64 tn,.int .i64 a,.int .i64 x] 103):=⟨_,rfl⟩;rw[<-hW];obtain⟨P,hP⟩:∃P,P=w.heap.size:=⟨_,rfl⟩;rw[<-hP];have hbW:Below w.heap.size w W:=by rw[hW];exact(Below.refl _ w).alloc (Nat.le_refl _) _
 have p0:W.cell? ⟨P,0,none⟩=some (.int .i64 tn):=by rw[hW,hP];simp
 have p1:W.cell? ⟨P,1,none⟩=some (.int .i64 a):=by rw[hW,hP];simp
 have p2:W.cell? ⟨P,2,none⟩=some (.int .i64 x):=by rw[hW,hP];simp
 have HBA:Hid (zam W B (itB d k) (cntB d k) (zf8 d k) (.slice ad len cap)):=hBA.below hbW hBl;have HOW:Hid (W.ownsRow (B+1) 3 1 (.slice ad len cap) n1 ((zaS d k).map (Value.int .i64))):=zaG hown hbW (Nat.le_refl _);have HPO:Hid (∀q,(Value.slice ad len cap).ownBlock=some q->q<P):=fun q hq=>by rw[hP];exact(hown.lt q hq).2
 have HBW:Hid (Below B w W):=hbW.mono (by omega);have hPB:B<P:=by omega
 have hPW:P<W.heap.size:=World.block_lt_of_cell? W _ p0;clear hW hP hbW hBA hown hBl;have q0:=HBA.out.count (k:=tn) (by omega);have z0:=HBA.out.thaw (7+tn);rw[HCN.out.1]at q0;have hBP:¬B=P:=by omega
 have hPB':¬P=B:=by omega
 go_region;have HBV:Hid (zam (W.setCell ⟨B,7+tn,none⟩ (.int .i64 ((cn:Int)+1))).drew B (itB d k) (cntB d (k+1)) (zf8 d k) (.slice ad len cap)):=by show zam (W.setCell ⟨B,7+tn,none⟩ (.int .i64 ((cn:Int)+1))) B _ _ _ _;rw[zlK hk (by rw[HO.out]),HCN.out.1];exact HBA.out.setCount (by omega) _
 have HOV:Hid ((W.setCell ⟨B,7+tn,none⟩ (.int .i64 ((cn:Int)+1))).drew.ownsRow (B+1) 3 1 (.slice ad len cap) n1 ((zaS d k).map (Value.int .i64))):=ownsRow_setCell_below HOW.out (by show B<B+1;omega) _;have HWV:Hid (Below B w (W.setCell ⟨B,7+tn,none⟩ (.int .i64 ((cn:Int)+1))).drew):=(HBW.out.setCell (by exact Nat.le_refl _) _).drew;obtain⟨V,hV⟩:∃V,V=(W.setCell ⟨B,7+tn,none⟩ (.int .i64 ((cn:Int)+1))).drew:=⟨_,rfl⟩;rw[<-hV]at HBV HOV HWV ⊢;have s0:V.cell? ⟨P,0,none⟩=some (.int .i64 tn):=by rw[hV,World.cell?_drew,World.cell?_setCell_other _ _ _ _ (by intro he;injection he with h1;exact hBP h1)];exact p0
 have s1:V.cell? ⟨P,1,none⟩=some (.int .i64 a):=by rw[hV,World.cell?_drew,World.cell?_setCell_other _ _ _ _ (by intro he;injection he with h1;exact hBP h1)];exact p1
 have s2:V.cell? ⟨P,2,none⟩=some (.int .i64 x):=by rw[hV,World.cell?_drew,World.cell?_setCell_other _ _ _ _ (by intro he;injection he with h1;exact hBP h1)];exact p2
 clear hV p0 p1 p2 q0 z0 HBA HOW HBW hPW;have hPV:P<V.heap.size:=World.block_lt_of_cell? V _ s0;by_cases ha1:a=1
 ·subst ha1;obtain⟨hx1,hx6⟩:=zcJ HIS.out (.inl rfl);simp only at hx1 hx6;obtain⟨m,rfl⟩:∃m:Nat,x=(m:Int):=⟨x.toNat,by omega⟩;have hm7:(m:Int)<7:=by omega
  obtain⟨vx,hvx⟩:∃vx,zoa d k=vx:=⟨_,rfl⟩;have hvv:itB d k m=vx:=by rw[<-hvx];unfold itB zoa;rw[HO.out]
  have f0:=HBV.out.item (k:=m) (by omega);rw[hvv]at f0;have f1:=HBV.out.seen;have hBV:=HBV.out.lt;have f2:∀o:Obj,(V.alloc o).cell? ⟨B,21,none⟩=some (.slice ad len cap):=fun o=>by rw[World.cell?_alloc_lt _ _ ⟨B,21,none⟩ hBV];exact f1
  have hvb:0<=vx/\vx<1000003:=by rw[<-hvx];exact zdt d k _
  obtain⟨sm,hsm⟩:∃sm,zf8 d k tn=sm:=⟨_,rfl⟩;have hsb:=zhx d (tn:Int) k;have hsm1:0<=sm/\sm<=40000120:=by have:zhn d k (tn:Int)=sm:=hsm;omega
  obtain⟨hsm0,hsm2⟩:=hsm1;obtain⟨hv0,hv2⟩:=hvb;have HSV:Hid (zf8 d k tn=sm/\zoa d k=vx/\itB d k m=vx):=⟨hsm,hvx,hvv⟩;have HN:Hid (zaS d (k+1)=zaS d k++[vx]):=by show zaS d (k+1)=_;rw[zaS,HO.out,if_pos rfl,hvx]
  clear hsb hsm hvx hvv
  go_upto_region 4 with(fail)
  go_region_law (refine zcD rfl (.tmp 23) (.tmp 31) 24 rfl (B+1) 3 i0 (.int .i64 0) 1 8 Tryz.underlying24 HI.out.1 HI.out.2.1 HI.out.2.2.1 HI.out.2.2.2 rfl (by decide) (.slice ad len cap) n1 ((zaS d k).map (Value.int .i64)) (by simp[Act.eval]) (HOV.out.alloc _) ⟨V.heap.size,0,none⟩ 1 1 [.int .i64 vx] (by simp[Act.eval]) rfl (cell_one_new _ _ _) (by simp[Value.oneCell']) (by unfold maxLen;omega) (by omega) (by simp;omega) ?_;intro v2 w2 hown2 hgr2 hnil2;clear hnil2;obtain⟨ad2,n2,cap2,rfl⟩:=zgs hown2;have HB2:Hid (zam w2 B (itB d k) (cntB d (k+1)) (zf8 d k) (.slice ad len cap)):=HBV.out.grown HOV.out hgr2;have HO2:Hid (w2.ownsRow (B+1) 3 1 (.slice ad2 n2 cap2) (n1+1) ((zaS d k).map (Value.int .i64)++[.int .i64 vx])):=hown2;have HG2:Hid ((V.drew.alloc (.cells #[.int .i64 vx] 3)).grownBy w2 (Value.slice ad len cap).ownBlock):=hgr2;clear hown2 hgr2;have g1:=HB2.out.seen;have g2:=HB2.out.thaw 21)
  all_goals
   have HB3:Hid (zam (w2.setCell ⟨B,21,none⟩ (.slice ad2 n2 cap2)) B (itB d (k+1)) (cntB d (k+1)) (zf8 d k) (.slice ad2 n2 cap2)):=by rw[zjQ (by rw[HO.out];show(1:Int)≠2;decide)];exact HB2.out.setSeen _
   have HO3:Hid ((w2.setCell ⟨B,21,none⟩ (.slice ad2 n2 cap2)).ownsRow (B+1) 3 1 (.slice ad2 n2 cap2) (n1+1) ((zaS d k).map (Value.int .i64)++[.int .i64 vx])):=ownsRow_setCell_below HO2.out (by show B<B+1;omega) _;have HW3:Hid (Below B w (w2.setCell ⟨B,21,none⟩ (.slice ad2 n2 cap2))):=(((HWV.out.drew.alloc (by have:=HWV.out.size;simp;omega) _).grown HG2.out (by simp;omega) (fun q hq=>by have:=(HOV.out.lt q hq).1;omega)).setCell (by exact Nat.le_refl _) _);have r0:(w2.setCell ⟨B,21,none⟩ (.slice ad2 n2 cap2)).cell? ⟨P,0,none⟩=some (.int .i64 tn):=by rw[World.cell?_setCell_other _ _ _ _ (by intro he;injection he with h1;exact hBP h1)];exact HG2.out.cell ((World.cell?_alloc_lt V.drew _ ⟨P,0,none⟩ hPV).trans s0) (fun he=>by have:=HPO.out P he.symm;omega)
   have r2:(w2.setCell ⟨B,21,none⟩ (.slice ad2 n2 cap2)).cell? ⟨P,2,none⟩=some (.int .i64 m):=by rw[World.cell?_setCell_other _ _ _ _ (by intro he;injection he with h1;exact hBP h1)];exact HG2.out.cell ((World.cell?_alloc_lt V.drew _ ⟨P,2,none⟩ hPV).trans s2) (fun he=>by have:=HPO.out P he.symm;omega)
   obtain⟨X,hX⟩:∃X,X=w2.setCell ⟨B,21,none⟩ (.slice ad2 n2 cap2):=⟨_,rfl⟩;rw[<-hX]at HB3 HO3 HW3 r0 r2 ⊢;clear hX g1 g2 HB2 HO2 HG2 s0 s1 s2 f0 f1 f2 hBV hPV HBV HOV HWV HPO;have t1:=HB3.out.item (k:=m) (by omega);rw[show itB d (k+1) m=vx by rw[zjQ (by rw[HO.out];show(1:Int)≠2;decide)];exact HSV.out.2.2]at t1;have t2:=HB3.out.sum (k:=tn) (by omega);rw[HSV.out.1]at t2;have t3:=HB3.out.thaw (14+tn);have HB4:Hid (zam (X.setCell ⟨B,14+tn,none⟩ (.int .i64 (sm+vx))) B (itB d (k+1)) (cntB d (k+1)) (zf8 d (k+1)) (.slice ad2 n2 cap2)):=by rw[zts (by rw[HO.out]) (by rw[HO.out]),HSV.out.1,HSV.out.2.1];exact HB3.out.setSum (by omega) _
   have HO4:Hid ((X.setCell ⟨B,14+tn,none⟩ (.int .i64 (sm+vx))).ownsRow (B+1) 3 1 (.slice ad2 n2 cap2) (n1+1) ((zaS d k).map (Value.int .i64)++[.int .i64 vx])):=ownsRow_setCell_below HO3.out (by show B<B+1;omega) _;go_wp2_with fail;go_region
   all_goals
    go_wp2;go_end0;exact⟨rfl,⟨_,HB4.out,by rw[HN.out,List.length_append,HN1.out,List.map_append];exact HO4.out⟩,(HW3.out.setCell (by exact Nat.le_refl _) _).drew⟩
 ·by_cases ha2:a=2
  ·subst ha2;obtain⟨hx1,hx6⟩:=zcJ HIS.out (.inr rfl);simp only at hx1 hx6;obtain⟨m,rfl⟩:∃m:Nat,x=(m:Int):=⟨x.toNat,by omega⟩;have hm7:(m:Int)<7:=by omega
   have f0:=HBV.out.item (k:=m) (by omega);have f1:=HBV.out.count (k:=tn) (by omega);have f2:=HBV.out.sum (k:=tn) (by omega);have f3:=HBV.out.thaw m;have hcc:cntB d (k+1) tn=(cn:Int)+1:=by rw[zlK hk (by rw[HO.out]),HCN.out.1];simp[zdv]
   rw[hcc]at f1;obtain⟨sm,hsm⟩:∃sm,zf8 d k tn=sm:=⟨_,rfl⟩;rw[hsm]at f2;have hsb:=zhx d (tn:Int) k;have hsm1:0<=sm/\sm<=40000120:=by have:zhn d k (tn:Int)=sm:=hsm;omega
   obtain⟨hsm0,hsm2⟩:=hsm1;obtain⟨ov,hov⟩:∃ov,itB d k m=ov:=⟨_,rfl⟩;rw[hov]at f0;have HWR:Hid (wrote d k=(7*(tn:Int)+((cn:Int)+1)+sm) % 1000003):=by show wrote d k=_;unfold wrote;rw[HO.out,HCN.out.2];show(7*(tn:Int)+((cn:Int)+1)+zf8 d k tn) % 1000003=_;rw[hsm]
   have HN:Hid (zaS d (k+1)=zaS d k):=by show zaS d (k+1)=zaS d k;rw[zaS,HO.out,if_neg ha1]
   clear hsb hsm hcc hov;have HB4:Hid (zam (V.setCell ⟨B,m,none⟩ (.int .i64 ((7*(tn:Int)+((cn:Int)+1)+sm) % 1000003))) B (itB d (k+1)) (cntB d (k+1)) (zf8 d (k+1)) (.slice ad len cap)):=by rw[zmv (by rw[HO.out];exact ha1),ztC (m:=m) (by rw[HO.out]) (by rw[HO.out]),HWR.out];exact HBV.out.setItem (by omega) _
   have HO4:Hid ((V.setCell ⟨B,m,none⟩ (.int .i64 ((7*(tn:Int)+((cn:Int)+1)+sm) % 1000003))).ownsRow (B+1) 3 1 (.slice ad len cap) n1 ((zaS d k).map (Value.int .i64))):=ownsRow_setCell_below HOV.out (by show B<B+1;omega) _;go_wp2_with fail;go_region
   all_goals
    go_wp2;go_end0;exact⟨rfl,⟨_,HB4.out,by rw[HN.out,HN1.out];exact HO4.out⟩,(HWV.out.setCell (by exact Nat.le_refl _) _).drew⟩
  ·have e1:(a == 1)=false:=by simpa using ha1
   have e2:(a == 2)=false:=by simpa using ha2
   have HN:Hid (zaS d (k+1)=zaS d k):=by show zaS d (k+1)=zaS d k;rw[zaS,HO.out,if_neg ha1]
   have HB4:Hid (zam V B (itB d (k+1)) (cntB d (k+1)) (zf8 d (k+1)) (.slice ad len cap)):=by rw[zmv (by rw[HO.out];exact ha1),zjQ (by rw[HO.out];exact ha2)];exact HBV.out
   clear ha1 ha2;go_wp2_with fail;go_end0;exact⟨rfl,⟨_,HB4.out,by rw[HN.out,HN1.out];exact HOV.out⟩,HWV.out⟩
end Go.Proofs.YthlhgiihngcobaaGreatDoor
