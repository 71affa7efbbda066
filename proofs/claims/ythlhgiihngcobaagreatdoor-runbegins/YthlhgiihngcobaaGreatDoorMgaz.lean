/-
  PROVED HERE: view.sight's isOf tells of names whether they come to the same sight; odds.Names gives the names of a list's ops; serial.namesEachOnce tells whether a list, sorted, is the other one; serial.Serial gives Check's error of a wrong list, ErrShape where the order does not name each deal that.
  Conditions: none but those that each theorem's own premises say.
-/
import Derived.Test.YthlhgiihngcobaaGreatDoorMgay
import Derived.Deep.QuietTactic
import Derived.BigQuiet
import Derived.WalkSmall
import Derived.Test.YthlhgiihngcobaaGreatDoorMgah
import Derived.Test.YthlhgiihngcobaaGreatDoorMgau
set_option maxHeartbeats 32000000
set_option maxRecDepth 100000
namespace Go.Proofs.YthlhgiihngcobaaGreatDoor
open Go.RowKit Go.Maps
theorem zzy{h g:List Op3}{i k:Nat}(hi:i<h.length)(hn:zaA h i=zaA g k):zgl h g k=(zeX h i == zeX g k):=by
 rw[Bool.eq_iff_iff,zld,beq_iff_eq];constructor
 ·rintro⟨j,j1,j2,j3⟩;rw[zj0 hi j1 (hn.trans j2.symm)];exact j3
 ·intro e;exact⟨i,hi,hn,e⟩
theorem zzr{h g:List Op3}{k:Nat}(hn:∀i,i<h.length->zaA h i≠zaA g k):zgl h g k=false:=by
 cases hb:zgl h g k with
 | false=>rfl
 | true =>obtain⟨i,i1,i2,_⟩:=zld.1 hb;exact absurd i2 (hn i i1)
theorem zzl(w:World):(zeroValue 105).run Tryz.prog w=.ok (nmV zN) w:=by kernel_rfl
theorem zdH{ops:Array Oper}{rest:List Oper}{o:Oper}{a:Act}{w:World}{Q:Exit->Act->World->Prop}(hg:o.guard=none)(m x:Operand)(hop:o.op=Op.lookup 101 m x true)
  (b n:Nat) (D:DataW Unit) (hm:a.eval m=.map (some b)) (hown:w.ownsMap Tryz.prog 105 zcT b n D) (key:Value) (kl:Lit) (hx:a.eval x=key) (hkey:keyOf Tryz.prog 105 key=some kl)
  (s:Nm) (hs:D.atKey kl (nmD zN)=nmD s) (q:Bool) (hq:Maps.has D kl=q) (hK:wpList Tryz.prog ops Q rest (a.put o.dst (.tuple #[nmV s,.bool q])) w):wpList Tryz.prog ops Q (o::rest) a w :=
 wpList_lookup_own_ok w hg m x _ hop 105 105 zAC Tryz.underlying101 zcT (zzl w) (nmD zN) [] (zuH zN) b n D hm hown key kl hx hkey (fun v ps hv=>by rw[hs]at hv;rw[zqb hv,hq];exact hK)
theorem znO(h g:List Op3)(k M S:Nat)(f:Nat->Nm)(D:DataW Unit)(W:World)(hl:h.length<=40)(hop:∀o∈h,isOpB o=true)(hl2:g.length<=40)(hop2:∀o∈g,isOpB o=true)(hk:k<g.length)(hL:zb2 W M h h.length D)(hS:zaU W S M f):Calls Tryz.prog 127 #[nmV (zaA g k),nmV (zeX g k),.pointer (some ⟨S,0,none⟩)] W fun e W'=>e=.returned (.bool (zgl h g k))/\Below W.heap.size W W':=by
 have hsn:=zdh hl2 hop2 hk;have hss:=zkQ hl2 hop2 (Nat.le_of_lt hk);have HK:Hid (keyOf Tryz.prog 105 (nmV (zaA g k))=some (nmL (zaA g k))):=zgG _ hsn;have HOWN:Hid (W.ownsMap Tryz.prog 105 zcT M h.length D):=hL.own;have hc:=hS.map;have hcl:=World.block_lt_of_cell? W _ hc;simp only at hcl;obtain⟨hf1,hf2⟩:=hL.froms (zaA g k) hsn;by_cases hex:∃i,i<h.length/\zaA h i=zaA g k
 ·obtain⟨i,hi,hin⟩:=hex;obtain⟨hhas,hat⟩:=hf1 i hi hin;have HSE:Hid (zgl h g k=(zeX h i == zeX g k)):=zzy hi hin;have hsi:=zkQ hl hop (Nat.le_of_lt hi);have HEQ:Hid (∀W,(Op.equal 105 (nmV (zeX h i)) (nmV (zeX g k))).run Tryz.prog W=.ok (zeX h i == zeX g k) W):=fun W=>zy5 _ _ hsi hss W;obtain⟨⟨⟨t,a,x⟩,m⟩,hnm⟩:∃n,zaA g k=n:=⟨_,rfl⟩;obtain⟨⟨⟨s1,s2,s3⟩,sm⟩,hsr⟩:∃n,zeX g k=n:=⟨_,rfl⟩;obtain⟨⟨⟨r1,r2,r3⟩,rm⟩,hsr2⟩:∃n,zeX h i=n:=⟨_,rfl⟩;rw[hsr2]at hat;rw[hsr,hsr2]at HEQ HSE;rw[hnm]at HK hat hhas;rw[hnm,hsr,HSE.out];have HAT:Hid (D.atKey (nmL ((t,a,x),m)) (nmD zN)=nmD ((r1,r2,r3),rm)/\Maps.has D (nmL ((t,a,x),m))=true):=⟨hat,hhas⟩;clear hnm hsr hsr2 hat hhas hf1 hf2 hin hi hsi hss hsn HSE hop hop2 hL hS hk;obtain⟨q,hq⟩:∃q,((((r1,r2,r3),rm):Nm) == ((s1,s2,s3),sm))=q:=⟨_,rfl⟩;rw[hq]at HEQ ⊢;clear hq;unfold nmV at HK HEQ ⊢;simp only at HK HEQ ⊢;go_enter Tryz.func127,Tryz.ntmps127;go_wp2_with (first | (at_lookup;refine zdH rfl (.tmp 10) (.tmp 11) rfl M h.length D rfl ((HOWN.out.alloc _).alloc _) (.agg #[.int .i64 t,.int .i64 a,.int .i64 x,.int .i64 m]) (nmL ((t,a,x),m)) rfl HK.out ((r1,r2,r3),rm) HAT.out.1 true HAT.out.2 ?_;unfold nmV;simp only) | refine ze1 rfl 105 105 (.tmp 17) (.tmp 18) rfl #[.int .i64 r1,.int .i64 r2,.int .i64 r3,.int .i64 rm] #[.int .i64 s1,.int .i64 s2,.int .i64 s3,.int .i64 sm] rfl rfl zBc q (HEQ.out _) ?_);go_ret;exact⟨rfl,(((Below.refl _ W).alloc (Nat.le_refl _) _).alloc (by simp) _).alloc (by simp;omega) _⟩
 ·have hhas:=hf2 fun i hi he=>hex ⟨i,hi,he⟩;have HSE:Hid (zgl h g k=false):=zzr fun i hi he=>hex ⟨i,hi,he⟩;have hat:=atKey_of_not_has hhas (nmD zN);obtain⟨⟨⟨t,a,x⟩,m⟩,hnm⟩:∃n,zaA g k=n:=⟨_,rfl⟩;obtain⟨⟨⟨s1,s2,s3⟩,sm⟩,hsr⟩:∃n,zeX g k=n:=⟨_,rfl⟩;rw[hnm]at HK hat hhas;rw[hnm,hsr,HSE.out];have HAT:Hid (D.atKey (nmL ((t,a,x),m)) (nmD zN)=nmD zN/\Maps.has D (nmL ((t,a,x),m))=false):=⟨hat,hhas⟩;clear hnm hsr hat hhas hf1 hf2 hex hss hsn HSE hop hop2 hL hS hk;unfold nmV at HK ⊢;simp only at HK ⊢;go_enter Tryz.func127,Tryz.ntmps127;go_wp2_with (at_lookup;refine zdH rfl (.tmp 10) (.tmp 11) rfl M h.length D rfl ((HOWN.out.alloc _).alloc _) (.agg #[.int .i64 t,.int .i64 a,.int .i64 x,.int .i64 m]) (nmL ((t,a,x),m)) rfl HK.out zN HAT.out.1 false HAT.out.2 ?_;unfold nmV zN;simp only);go_ret;exact⟨rfl,(((Below.refl _ W).alloc (Nat.le_refl _) _).alloc (by simp) _).alloc (by simp;omega) _⟩
theorem zwf(args:Array Value)(W:World):(callFunc 127 args).run Tryz.prog W=.ok (.enter 127 args) W:=by
 kernel_rfl
theorem zbo.below{w w1:World}{B:Nat}{v:Value}{l:List Nm}(h:zbo w v l)(hb:Below B w w1)(hB:w.heap.size<=B):zbo w1 v l:=by
 obtain⟨ad,b,off,cap,hv,ha,hbB,hat⟩:=h;have hs:=hb.size;refine⟨ad,b,off,cap,hv,ha,?_,hat.below hb ?_⟩
 ·rcases hbB with h | h
  ·exact .inl (by omega)
  ·exact .inr h
 ·rcases hbB with h | h
  ·exact .inl (by omega)
  ·exact .inr h
theorem zwj{h g:List Op3}{k:Nat}(hk:k<g.length)(hn:zgl h g k=false):zcQ h g=false:=by
 cases hb:zcQ h g with
 | false=>rfl
 | true=>rw[(zgj.1 hb).2.1 k hk]at hn;cases hn
theorem zvE{h g:List Op3}(hn:g.length≠h.length):zcQ h g=false:=by
 cases hb:zcQ h g with
 | false=>rfl
 | true=>exact absurd (zgj.1 hb).1 hn
theorem zqx{h g:List Op3}(hl:g.length=h.length)(hs:∀k,k<g.length->zgl h g k=true):zcQ h g=zj2 h g:=by rw[Bool.eq_iff_iff,zgj];exact⟨fun h=>h.2.2,fun h=>⟨hl,hs,h⟩⟩
theorem zym{h g:List Op3}:zj2 h g=true↔∀x,x<7->zaC h h.length x=zaC g g.length x:=zuh
theorem zdJ{P:Program}{ops:Array Oper}{rest:List Oper}{o:Oper}{a:Act}{w:World}{Q:Exit->Act->World->Prop}(hw:Region.wanted o (yielded ops a.tmps)=true)(ty:TypeId)(x:Operand)(ho:o.op=.load ty x)
  (g:Nat) (hx:a.eval x=.pointer (some ⟨g,0,none⟩)) (t:TypeId) (cs:Array Value) (fr:Nat × Nat) (d:TypeDesc) (hg:w.heap[g]? = some (.cells cs t fr))
  (hu:P.underlying ty=some d) (hd:(match d with | .struct _ | .array _ _=>true | _=>false)=true) (hi:(P.info? ty).map (·.size)=some cs.size)
  (h:wpList P ops Q rest (a.put o.dst (.agg cs)) w):wpList P ops Q (o::rest) a w :=
 Go.BigFrame.wpList_want hw fun _ hK=>wp_load_row ty x ho g hx t cs fr d hg hu hd hi (hK _ _ h)
theorem zg4{P:Program}{ops:Array Oper}{rest:List Oper}{op:Oper}{a:Act}{w:World}{Q:Exit->Act->World->Prop}(hw:Region.wanted op (yielded ops a.tmps)=true)(ty:TypeId)(x:Operand)(ho:op.op=.load ty x)
  (b o:Nat) (hx:a.eval x=.pointer (some ⟨b,o,none⟩)) (cs:List Value) (d:TypeDesc) (hc:w.rangeAt b o cs)
  (hu:P.underlying ty=some d) (hd:d.isRow=true) (hi:(P.info? ty).map (·.size)=some cs.length)
  (h:wpList P ops Q rest (a.put op.dst (.agg cs.toArray)) w):wpList P ops Q (op::rest) a w :=
 Go.BigFrame.wpList_want hw fun _ hK=>wp_load_mid ty x ho b o hx cs d hc hu hd hi (hK _ _ h)
theorem zhE{l:List Op3}{k:Nat}(hl:l.length<=40)(hop:∀o∈l,isOpB o=true)(hk:k<=l.length):∀x,x<7->Small (zaC l k x):=fun _ _=>zjJ hl hop hk _
theorem zpY(h g:List Op3)(M:Nat)(D:DataW Unit)(nv:Value)(w:World)(hl:h.length<=40)(hop:∀o∈h,isOpB o=true)(hl2:g.length<=40)(hop2:∀o∈g,isOpB o=true)(hL:zb2 w M h h.length D)(hN:zbo w nv (zaY g g.length)):Calls Tryz.prog 57 #[.agg (cells29 M (zaC h h.length)),nv] w fun e w'=>e=.returned (.bool (zcQ h g))/\Below w.heap.size w w':=by
 have HOP:Hid ((∀o∈h,isOpB o=true)/\(∀o∈g,isOpB o=true)):=⟨hop,hop2⟩;have HN:Hid (∀W,Below w.heap.size w W->zbo W nv (zaY g g.length)):=fun W hW=>hN.below hW (Nat.le_refl _);have HL:Hid (∀W,Below w.heap.size w W->zb2 W M h h.length D):=fun W hW=>hL.same (hW.block _ hL.own.lt);have hMl:=hL.own.lt;obtain⟨ad,b,off,cap,hv,-,-,-⟩:=hN;rw[zcy]at hv;subst hv;clear hop hop2 hL;go_enter Tryz.func57,Tryz.ntmps57
 go_upto_region 1 with(fail)
 obtain⟨W0,hW0⟩:∃W0,W0=w.alloc (.cells (cells29 M (zaC h h.length)) 109):=⟨_,rfl⟩;rw[<-hW0];have HS0:Hid (zaU W0 w.heap.size M (zaC h h.length)):=by rw[hW0];exact zvv _ _ _
 have hB0:Below w.heap.size w W0:=by rw[hW0];exact(Below.refl _ w).alloc (Nat.le_refl _) _
 have hs0:w.heap.size<W0.heap.size:=HS0.out.lt;have c0:=HS0.out.map;have HLD:Hid (zb2 W0 M h h.length D):=HL.out W0 hB0;have HB0:Hid (Below w.heap.size w W0):=hB0;have HN0:Hid (zbo W0 (.slice ad g.length cap) (zaY g g.length)):=HN.out W0 hB0;obtain⟨es,clock,hes⟩:=ztS HLD.out.own;have HES:Hid (W0.heap[M]? = some (.map es clock)):=hes;clear hW0 hB0 HL HN hes;by_cases hlen:g.length=h.length
 ·have hne:((g.length:Int) != (h.length:Int))=false:=by rw[hlen];simp
  have HLEN:Hid (g.length=h.length):=hlen;clear hlen;go_wp2_with (at_len;refine wpList_len_own _ rfl (.tmp 10) 101 rfl 105 105 Tryz.underlying101 zcT M h.length D rfl HLD.out.own ?_;rw[HLD.out.size]);refine(zjc g _ _ 127 M es clock W0 (fun _ W=>W.heap[M]? = W0.heap[M]?) (zgl h g) zwf HN0.out hl2 HOP.out.2 HES.out rfl (fun _ _ _ h hb=>hb.trans h) ?_).mono ?_
  ·intro k hk W hin hsv;refine(znO h g k M w.heap.size (zaC h h.length) D W hl HOP.out.1 hl2 HOP.out.2 hk (HLD.out.same hin) (HS0.out.same (hsv.block _ hs0 (by omega)))).mono ?_;rintro e W' ⟨he,hb⟩;exact⟨he,(hb.block M (by have:=hsv.size;omega)).trans hin,zbE.of_below hb⟩
  rintro e w1 ⟨k,hk,hall,hno,rfl,hin,hsv⟩;have hB1:Below W0.heap.size W0 w1:=hsv.below hin;have HB1:Hid (Below w.heap.size w w1):=HB0.out.trans (hB1.mono (by omega));have HS1:Hid (zaU w1 w.heap.size M (zaC h h.length)):=HS0.out.below hB1 hs0;have hs1:w.heap.size<w1.heap.size:=HS1.out.lt;have HF1:Hid (zaE (w1.alloc (.cells (cells28 fun _=>zN) 107)) w1.heap.size (fun _=>zN)):=zhk _ _;clear hin hsv hB1 c0 HS0 HLD HB0 HN0 HES;by_cases hkg:k=g.length
  ·have HSI:Hid (zcQ h g=zj2 h g):=zqx HLEN.out fun j hj=>hall j (by omega);rw[show decide (k=g.length)=true from decide_eq_true hkg];obtain⟨r,hr,hiff⟩:∃r:Bool,(∀W,(Op.equal 107 (.agg (cells28 (zaC g g.length))) (.agg (cells28 (zaC h h.length)))).run Tryz.prog W=.ok r W)/\r=zj2 h g:=by refine⟨zj2 h g,fun W=>?_,rfl⟩;obtain⟨r,hr,hiff⟩:=zz8 (zaC g g.length) (zaC h h.length) (zhE hl2 HOP.out.2 (Nat.le_refl _)) (zhE hl HOP.out.1 (Nat.le_refl _)) W;rw[hr];congr 1;rw[Bool.eq_iff_iff,hiff,zym];exact⟨fun h x hx=>(h x hx).symm,fun h x hx=>(h x hx).symm⟩
   have HSR:Hid (zcQ h g=r):=by show zcQ h g=r;rw[HSI.out,hiff]
   have HR:Hid (∀W,(Op.equal 107 (.agg (cells28 (zaC g g.length))) (.agg (cells28 (zaC h h.length)))).run Tryz.prog W=.ok r W):=hr;subst hkg;clear hall hno hk hr hiff HSI
   go_upto_region 4 with(first | refine wpList_store_row rfl 107 (.tmp 5) (.tmp 17) rfl w1.heap.size (cells28 (zaC g g.length)) rfl rfl 107 (cells28 fun _=>zN) HF1.out (zaT _) (by rw[zan,zan]) (zbN _) ?_ | fail)
   refine zgr w1 _ _ rfl ?_;intro W hLW hBW;have HLW:Hid (zaE W w1.heap.size (zaC g g.length)):=hLW;have HSW:Hid (zaU W w.heap.size M (zaC h h.length)):=HS1.out.below hBW hs1;have HBW:Hid (Below w.heap.size w W):=HB1.out.trans (hBW.mono (by omega));clear hLW hBW HF1 HS1 HB1;go_wp2_with (first | refine zdJ rfl 107 (.tmp 5) rfl w1.heap.size rfl 107 (cells28 (zaC g g.length)) (0,0) _ HLW.out Tryz.underlying107 rfl (zaT _) ?_ | refine zg4 rfl 107 (.tmp 22) rfl w.heap.size 1 rfl (cells28 (zaC h h.length)).toList _ HSW.out.range Tryz.underlying107 rfl (by rw[Array.length_toList,zan];exact zmu) ?_ | refine ze1 rfl 107 107 (.tmp 21) (.tmp 23) rfl (cells28 (zaC g g.length)) (cells28 (zaC h h.length)) rfl rfl zBj r (HR.out _) ?_);go_ret;exact⟨by rw[HSR.out];rfl,HBW.out⟩
  ·have HSI:Hid (zcQ h g=false):=zwj (by omega) (hno (by omega));rw[show decide (k=g.length)=false from decide_eq_false hkg];clear hall hno hkg
   go_upto_region 4 with(first | refine wpList_store_row rfl 107 (.tmp 5) (.tmp 17) rfl w1.heap.size (cells28 (zaC g k)) rfl rfl 107 (cells28 fun _=>zN) HF1.out (zaT _) (by rw[zan,zan]) (zbN _) ?_ | fail)
   refine zgr w1 _ _ rfl ?_;intro W hLW hBW;have HBW:Hid (Below w.heap.size w W):=HB1.out.trans (hBW.mono (by omega));clear hLW hBW HF1 HS1 HB1;go_wp2_with fail;go_ret;exact⟨by rw[HSI.out];rfl,HBW.out⟩
 ·have hne:((g.length:Int) != (h.length:Int))=true:=by simp;omega
  have HSI:Hid (zcQ h g=false):=zvE hlen;clear hlen;go_wp2_with (at_len;refine wpList_len_own _ rfl (.tmp 10) 101 rfl 105 105 Tryz.underlying101 zcT M h.length D rfl HLD.out.own ?_;rw[HLD.out.size]);go_ret;exact⟨by rw[HSI.out];rfl,HB0.out⟩
end Go.Proofs.YthlhgiihngcobaaGreatDoor
namespace Go.Proofs.YthlhgiihngcobaaGreatDoor
open Go.RowKit Go.Maps
theorem nms_ok(l:List Op3)(v:Value)(w:World)(h:zai w v l)(hc:(chk l).2=0):Calls Tryz.prog 53 #[v] w fun e w'=>∃v',e=.returned (.tuple #[v',.nilIface])/\zbo w' v' (zaY l l.length)/\Below w.heap.size w w':=by have hl:=zaQ hc;have HT:Hid (∀o∈l,1<=o.1/\o.1<=6):=fun o ho=>zbu (chk_ops hc o ho);go_enter Tryz.func53,Tryz.ntmps53;go_wp2_with fail;refine(check_ok l _ _ h hc).mono ?_;rintro e w1 ⟨rfl,hb1⟩;have hI1:=h.below hb1 (Nat.le_refl _);clear hc h;go_wp2_with fail;refine(onames_any l _ _ hI1 hl HT.out).mono ?_;rintro e w2 ⟨v2,rfl,hN2,hb2⟩;have HN2:Hid (zbo w2 v2 (zaY l l.length)):=hN2;have hb02:=hb1.trans (hb2.mono hb1.size);clear hN2 hb1 hb2 hI1;go_wp2_with fail;go_ret2;exact⟨_,rfl,HN2.out,hb02⟩
theorem zih{w:World}{v:Value}{d:List Op3}(h:zbo w v (zaY d d.length)):∃ad cap,v=.slice ad d.length cap:=by obtain⟨ad,b,off,cap,hv,-⟩:=h;rw[zcy]at hv;exact⟨ad,cap,hv⟩
theorem znB{c:Code}{Q:Exit->Act->World->Prop}{a:Act}(w:World)(Z:Array Value)(M:Nat)(f:Nat->Nm)(hZ:zc1=Z)(h:∀W,zaU W w.heap.size M f->Below w.heap.size w W->Code.wp Tryz.prog c Q a W):Code.wp Tryz.prog c Q a ((w.alloc (.cells Z 109)).setRow w.heap.size (cells29 M f)):=by subst hZ;exact h _ (setRow_heap _ _ _ _ _ _ (heap_alloc_new _ _)) (below_setRow ((Below.refl _ w).alloc (Nat.le_refl _) _) (Nat.le_refl _) _)
end Go.Proofs.YthlhgiihngcobaaGreatDoor
namespace Go.Proofs.YthlhgiihngcobaaGreatDoor
open Go.RowKit
theorem zuP(o d:List Int)(u v:Value)(w:World)(hu:zaf w u o)(hv:zaf w v d)(hd:d.length<=6):Calls Tryz.prog 125 #[u,v] w fun e w'=>e=.returned (.bool (sortI o == d))/\Below w.heap.size w w':=by
 by_cases hlen:o.length=d.length
 ·have HU:Hid (zaf w u o):=hu;have HV:Hid (∀W,Below w.heap.size w W->zaf W v d):=fun W hW=>hv.below hW (Nat.le_refl _);obtain⟨ad,b,off,cap,hu1,-,-,-,-⟩:=hu;obtain⟨ad2,b2,off2,cap2,hv1,-,-,-,-⟩:=hv;have HL:Hid (o.length<=6):=by show o.length<=6;omega
  have HD:Hid (d.length<=6):=hd;rw[hlen]at hu1;obtain⟨n,hn⟩:∃n,d.length=n:=⟨_,rfl⟩;rw[hn]at hu1 hv1;subst hu1 hv1;clear hn hlen hd;go_enter Tryz.func125,Tryz.ntmps125;go_wp2_with fail;refine(clone_ints o _ _ HU.out (by have:=HL.out;omega)).mono ?_;rintro e w1 ⟨v1,rfl,hown1,hb1⟩;have HO1:Hid (w1.ownsRow w.heap.size 3 1 v1 o.length (o.map (Value.int .i64))):=hown1;clear hown1;go_wp2_with fail;refine(sort_own o _ _ _ _ rfl (by have:=HL.out;omega) HO1.out).mono ?_;rintro e w2 ⟨rfl,hown2,hgr2⟩;have hb2:Below w.heap.size w w2:=hb1.grown hgr2 hb1.size (fun m hm=>(HO1.out.lt m hm).1);have HO2:Hid (zaf w2 v1 (sortI o)):=zap hown2 (zay o).length_eq;clear hown2 hgr2;go_wp2_with fail;refine(zrV (sortI o) d _ _ _ HO2.out (HV.out _ hb2) (by rw[(zay o).length_eq];have:=HL.out;omega) (by have:=HD.out;omega)).mono ?_;rintro e w3 ⟨rfl,hb3⟩;go_wp2_with fail;go_ret;exact⟨rfl,hb2.trans (hb3.mono hb2.size)⟩
 ·have HF:Hid ((sortI o == d)=false):=zvO (by rw[(zay o).length_eq];exact hlen);obtain⟨ad,b,off,cap,rfl,-,-,-,-⟩:=hu;obtain⟨ad2,b2,off2,cap2,rfl,-,-,-,-⟩:=hv;have hne:((o.length:Int) == (d.length:Int))=false:=by rw[beq_eq_false_iff_ne];omega
  clear hlen hd;go_enter Tryz.func125,Tryz.ntmps125;go_wp2_with fail;go_ret;exact⟨by rw[HF.out];rfl,Below.refl _ _⟩
end Go.Proofs.YthlhgiihngcobaaGreatDoor
namespace Go.Proofs.YthlhgiihngcobaaGreatDoor
open Go.RowKit
theorem zBu(l:List Op3)(o:List Int)(v u:Value)(w:World)(h:zai w v l)(hu:zaf w u o)(hc:(chk l).2=0)(hs:sortI o=zas (doneL l)):Calls Tryz.prog 56 #[v,u] w fun e w'=>∃v',e=.returned (.tuple #[v',.nilIface])/\zai w' v' (alongL (doneL l) o)/\Below w.heap.size w w':=by
 have hdd:=zmK l v w h hc;have hcd:=chk_done hc;have ho6:=ziq hs;have hod:∀x∈o,1<=x/\x<=6/\0<(ofL (doneL l) x).length:=fun x hx=>by have h1:=zbc.1 ((zei hs).mem_iff.1 hx);exact⟨h1.1,h1.2.1,zyV h1.2.2⟩
 obtain⟨d,hd⟩:∃d,doneL l=d:=⟨_,rfl⟩;rw[hd]at hdd hcd hs hod ⊢;have hl40:=zaQ hcd;have HCD:Hid ((chk d).2=0):=hcd;have HOD:Hid (∀x∈o,1<=x/\x<=6/\0<(ofL d x).length):=hod;have HS:Hid ((sortI o == zas d)=true):=by show(sortI o == zas d)=true;rw[hs];simp
 have HD:Hid (Calls Tryz.prog 44 #[v] w fun e w'=>∃u v',e=.returned (.tuple #[u,v',.nilIface])/\zai w' u d/\w'.ownsRow w.heap.size 3 1 v' (zas d).length ((zas d).map (Value.int .i64))/\Below w.heap.size w w'):=hdd;have HUI:Hid (∀W,Below w.heap.size w W->zaf W u o):=fun W hW=>hu.below hW (Nat.le_refl _)
 have HAL:Hid (∀k,(alongL d (o.take k)).length<=240):=fun k=>by
  have h1:=ztX d (o.take k);have h2:(o.take k).length<=6:=by have:=List.length_take_le' k o;omega
  have h3:=Nat.mul_le_mul h2 hl40;omega
 have HOL:Hid (∀t,(ofL d t).length<=40):=fun t=>Nat.le_trans (List.length_filter_le ..) hl40;obtain⟨ad,b,off,cap,rfl,ha,-,hbB,hcl⟩:=hu
 have HU:Hid (∀W,Below w.heap.size w W->∀k,k<o.length->ad=some ⟨b,off,none⟩/\W.cell? ⟨b,off+k,none⟩=some (.int .i64 (o.getD k 0))):=fun W hW k hk=>by
  have hb:b<w.heap.size:=by
   rcases hbB with h | h
   ·exact h
   ·subst h;simp at hk
  exact⟨ha (by omega),(hW.cell (p:=⟨b,off+k,none⟩) hb).trans (hcl k hk)⟩
 obtain⟨i0,hi,hz0,hs0,hy0⟩:=info_parts zmo;have HI:Hid (Tryz.prog.info? 103=some i0/\i0.zero=some (.agg #[.int .i64 0,.int .i64 0,.int .i64 0])/\i0.size=3/\i0.bytes=24):=⟨hi,hz0,hs0,hy0⟩;clear hi hz0 hs0 hy0 hdd hcd hs hod ha hbB hcl h hc hd;go_enter Tryz.func56,Tryz.ntmps56;go_wp2_with fail;refine HD.out.mono ?_;rintro e w1 ⟨u1,v1,rfl,hI1,hown1,hb1⟩;have HI1:Hid (zai w1 u1 d):=hI1;have HD1:Hid (zaf w1 v1 (zas d)):=zap hown1 rfl;clear hI1 hown1;go_wp2_with fail;refine(zuP o (zas d) _ _ _ (HUI.out _ hb1) HD1.out (zcc _ 6)).mono ?_;rintro e w2 ⟨rfl,hb2⟩;rw[HS.out];have HB2:Hid (Below w.heap.size w w2):=hb1.trans (hb2.mono hb1.size);have HI2:Hid (∀W,Below w2.heap.size w2 W->zai W u1 d):=fun W hW=>(HI1.out.below hb2 (Nat.le_refl _)).below hW (Nat.le_refl _);have HU2:Hid (∀W,Below w2.heap.size w2 W->∀k,k<o.length->ad=some ⟨b,off,none⟩/\W.cell? ⟨b,off+k,none⟩=some (.int .i64 (o.getD k 0))):=fun W hW=>HU.out W (HB2.out.trans (hW.mono HB2.out.size));clear hb1 hb2;go_wp2_with fail
 go_loopw [9,30] (fun v9 v30 wr=>∃k:Nat,k<=o.length/\v30=.int .i64 k/\wr.ownsRow w2.heap.size 103 3 v9 (alongL d (o.take k)).length (flat (alongL d (o.take k)))/\Below w2.heap.size w2 wr) (fun _ v30 _=>o.length-(intOf v30).toNat)
 case atStart=>exact⟨0,Nat.zero_le _,rfl,World.ownsRow_nil _ _ _ _,Below.refl _ _⟩
 case round =>
  obtain⟨k,hk,rfl,hown,hbel⟩:=hrel;have hsz:=hbel.size;by_cases hlt:k<o.length
  ·have hlt':(k:Int)<(o.length:Int):=by omega
   obtain⟨hadr,c0⟩:=HU2.out wr hbel k hlt;subst hadr;obtain⟨t,ht⟩:∃t,o.getD k 0=t:=⟨_,rfl⟩;rw[ht]at c0;have htm:t∈o:=by rw[<-ht];simp[List.getD,List.getElem?_eq_getElem hlt]
   have HT:Hid (alongL d (o.take (k+1))=alongL d (o.take k)++ofL d t):=by show alongL d (o.take (k+1))=alongL d (o.take k)++ofL d t;rw[List.take_succ_eq_append_getElem hlt,<-zqr,<-ht];simp[List.getD,List.getElem?_eq_getElem hlt]
   have HTT:Hid (1<=t/\t<=6/\0<(ofL d t).length):=HOD.out t htm;clear ht htm;have HOWN:Hid (wr.ownsRow w2.heap.size 103 3 u9 (alongL d (o.take k)).length (flat (alongL d (o.take k)))):=hown;have ha1:=HAL.out k;obtain⟨al,hal⟩:∃al,alongL d (o.take k)=al:=⟨_,rfl⟩;rw[hal]at HT HOWN ha1;obtain⟨n1,hn1⟩:∃n1,al.length=n1:=⟨_,rfl⟩;rw[hn1]at HOWN ha1;have HN1:Hid (al.length=n1):=hn1;clear hown hal hn1;go_wp2_with fail;refine(zCa d u1 t _ (HI2.out wr hbel) HCD.out HTT.out.1 HTT.out.2.1).mono ?_;rintro e w3 ⟨v3,rfl,hI3,hb3⟩;have HB3:Hid (Below w2.heap.size w2 w3):=hbel.trans (hb3.mono hsz);have HOWN3:Hid (w3.ownsRow w2.heap.size 103 3 u9 n1 (flat al)):=zaG HOWN.out hb3 (Nat.le_refl _);have hsz3:=HB3.out.size;have ho1:=HOL.out t;obtain⟨ol,hol⟩:∃ol,ofL d t=ol:=⟨_,rfl⟩;rw[hol]at hI3 HT HTT ho1;obtain⟨ad3,b3,off3,cap3,rfl,ha3,-,-,hops3⟩:=hI3;have hpos:=HTT.out.2.2;obtain rfl:=ha3 hpos;have HS3:Hid (∀j u,(flat ol)[j]? = some u->w3.cell? ⟨b3,off3+j,none⟩=some u):=hops3.flat;obtain⟨n3,hn3⟩:∃n3,ol.length=n3:=⟨_,rfl⟩;rw[hn3]at ho1 hpos ⊢;have HN3:Hid (ol.length=n3):=hn3;clear hol ha3 hops3 hn3 hb3 HOWN;go_wp2_with (at_builtin;refine wpList_append_own _ rfl (.tmp 43) (.tmp 44) 28 rfl w2.heap.size 103 i0 (.agg #[.int .i64 0,.int .i64 0,.int .i64 0]) 3 24 Tryz.underlying28 HI.out.1 HI.out.2.1 HI.out.2.2.1 HI.out.2.2.2 rfl (by decide) u9 n1 (flat al) rfl HOWN3.out ⟨b3,off3,none⟩ n3 cap3 (flat ol) rfl (by rw[zbr,HN3.out]) (fun j u hj=>by rw[Addr.add_lit];exact HS3.out j u hj) (zba _) (by unfold maxLen;omega) (by omega) (by omega) ?_;intro v4 w4 hown4 hgr4 hnil4);have hB4:=HB3.out.grown hgr4 hsz3 (fun m hm=>(HOWN3.out.lt m hm).1);go_roundw
   case rel=>exact⟨k+1,by omega,by go_num,by rw[HT.out,zaP,List.length_append,HN1.out,HN3.out];exact hown4,hB4⟩
   case measure=>simp[intOf];omega
  ·have hlt':¬(k:Int)<(o.length:Int):=by omega
   have HOP:Hid (zai wr u9 (alongL d o)):=by show zai wr u9 (alongL d o);have h1:=zdT hown rfl;rw[List.take_of_length_le (by omega)]at h1;exact h1
   clear hown;go_wp2_with fail;go_ret2;exact⟨_,rfl,HOP.out,HB2.out.trans (hbel.mono HB2.out.size)⟩
end Go.Proofs.YthlhgiihngcobaaGreatDoor
