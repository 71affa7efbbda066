/-
  PROVED HERE: faces.ends' method ended tells who has committed or aborted by a place; faces.writer tells who wrote an item last in a list of ops, of those that have not aborted within it.
  Conditions: none but those that each theorem's own premises say.
-/
import Derived.Test.YthlhgiihngcobaaGreatDoorMgbp
import Derived.BigFrame
import Derived.Laws.CopyOwn
set_option maxHeartbeats 32000000
set_option maxRecDepth 100000
namespace Go.Proofs.YthlhgiihngcobaaGreatDoor
open Go.RowKit
theorem wpList_load_row1{P:Program}{ops:Array Oper}{rest:List Oper}{o:Oper}{a:Act}{w:World}{Q:Exit->Act->World->Prop}(hw:Region.wanted o (yielded ops a.tmps)=true)(ty:TypeId)(x:Operand)(ho:o.op=.load ty x)
  (g:Nat) (hx:a.eval x=.pointer (some ⟨g,0,none⟩)) (t:TypeId) (cs:Array Value) (fr:Nat × Nat) (d:TypeDesc) (hg:w.heap[g]? = some (.cells cs t fr))
  (hu:P.underlying ty=some d) (hd:(match d with | .struct _ | .array _ _=>true | _=>false)=true) (hi:(P.info? ty).map (·.size)=some cs.size)
  (h:wpList P ops Q rest (a.put o.dst (.agg cs)) w):wpList P ops Q (o::rest) a w :=
 Go.BigFrame.wpList_want hw fun _ hK=>wp_load_row ty x ho g hx t cs fr d hg hu hd hi (hK _ _ h)
theorem zkF(f:Nat->Int × Int)(t i:Int)(w:World)(h0:0<=t)(h7:t<7):Calls Tryz.prog 69 #[.agg (cells14 f),.int .i64 t,.int .i64 i] w fun e w'=>e=.returned (.bool (byE f t i 3 || byE f t i 4))/\Below w.heap.size w w':=by
 go_enter Tryz.func69,Tryz.ntmps69
 go_upto_region 1 with(fail)
 obtain⟨W,hW⟩:∃W,W=w.alloc (.cells (cells14 f) 121):=⟨_,rfl⟩;rw[<-hW];have HE:Hid (zad W w.heap.size f):=by show zad W _ f;rw[hW];exact zbO w f
 have HB:Hid (Below w.heap.size w W):=by show Below _ _ _;rw[hW];exact(Below.refl _ w).alloc (Nat.le_refl _) _
 clear hW;go_wp2_with (refine wpList_load_row rfl 121 (.tmp 3) rfl w.heap.size rfl 121 (cells14 f) (0,0) _ HE.out Tryz.underlying121 rfl (zaC _) ?_);refine(zbQ f t i _ h0 h7).mono ?_;rintro e w1 ⟨rfl,hb1⟩;have HE1:Hid (zad w1 w.heap.size f):=HE.out.below hb1 HE.out.lt;have HB1:Hid (Below w.heap.size w w1):=HB.out.trans (hb1.mono HB.out.size);clear hb1;cases hq:byE f t i 3 with
 | true =>have HQ:Hid (byE f t i 3=true):=hq;clear hq;go_wp2_with fail;go_ret;exact⟨by rw[HQ.out];rfl,HB1.out⟩
 | false =>have HQ:Hid (byE f t i 3=false):=hq;clear hq;go_wp2_with (refine wpList_load_row1 rfl 121 (.tmp 3) rfl w.heap.size rfl 121 (cells14 f) (0,0) _ HE1.out Tryz.underlying121 rfl (zaC _) ?_);refine(zed f t i _ h0 h7).mono ?_;rintro e w2 ⟨rfl,hb2⟩;have HB2:Hid (Below w.heap.size w w2):=HB1.out.trans (hb2.mono HB1.out.size);clear hb2;go_wp2_with fail;go_ret;exact⟨by rw[HQ.out];rfl,HB2.out⟩
theorem ziH(l:List Op3)(v:Value)(w:World)(hI:zal w v l)(hl:l.length<=40)(hop:∀o∈l,isOpB o=true):Calls Tryz.prog 61 #[v] w fun e w'=>e=.returned (.agg (cells14 (zbI l l.length)))/\Below w.heap.size w w':=by
 obtain⟨ad,b,off,cap,rfl,ha,-,hbB,hops⟩:=hI;have HO:Hid (∀W,Below w.heap.size w W->∀k,k<l.length->ad=some ⟨b,off,none⟩/\W.cell? ⟨b,off+k*3,none⟩=some (.int .i64 (opAt l k).1)/\W.cell? ⟨b,off+k*3+1,none⟩=some (.int .i64 (opAt l k).2.1)/\W.cell? ⟨b,off+k*3+2,none⟩=some (.int .i64 (opAt l k).2.2)):=fun W hW k hk=>⟨ha (by omega),(hops.below hW hbB) k hk⟩;have HOP:Hid (∀o∈l,isOpB o=true):=hop;clear ha hbB hops hop;go_enter Tryz.func61,Tryz.ntmps61;go_wp2
 go_loopw [8] (fun v8 wr=>∃k:Nat,k<=l.length/\v8=.int .i64 k/\Below w.heap.size w wr/\zad wr w.heap.size (fun _=>(0,0))/\zad wr (w.heap.size+1) (zbI l k)) (fun v8 _=>l.length-(intOf v8).toNat)
 case atStart =>refine⟨0,Nat.zero_le _,rfl,((Below.refl _ w).alloc (Nat.le_refl _) _).alloc (by simp) _,(ze5 w _ rfl).alloc _,?_⟩;have h1:=ze5 (w.alloc (.cells (cells14 fun _=>(0,0)) 121)) _ rfl;rw[show(w.alloc (.cells (cells14 fun _=>(0,0)) 121)).heap.size=w.heap.size+1 by simp]at h1;exact h1
 case round =>
  obtain⟨k,hk,rfl,hbel,hz,hs⟩:=hrel;have hB1:=hs.lt;have HZ:Hid (zad wr w.heap.size (fun _=>(0,0))):=hz;have HS:Hid (zad wr (w.heap.size+1) (zbI l k)):=hs;have HBW:Hid (Below w.heap.size w wr):=hbel;clear hz hs;by_cases hlt:k<l.length
  ·have hlt':(k:Int)<(l.length:Int):=by omega
   obtain⟨hadr,c0,c1,c2⟩:=HO.out wr hbel k hlt;subst hadr;obtain⟨⟨t,a,x⟩,ho⟩:∃o:Op3,opAt l k=o:=⟨_,rfl⟩;have hisop:=HOP.out _ (zaj hlt);rw[ho]at c0 c1 c2 hisop;obtain⟨ht1,ht6⟩:=zaG hisop;have HOA:Hid (opAt l k=(t,a,x)):=ho;simp only at c0 c1 c2 ht1 ht6;clear ho hisop hbel
   go_upto_region 5 with(fail)
   obtain⟨W,hW⟩:∃W,W=wr.alloc (.cells #[.int .i64 t,.int .i64 a,.int .i64 x] 103):=⟨_,rfl⟩;rw[<-hW];obtain⟨P,hP⟩:∃P,P=wr.heap.size:=⟨_,rfl⟩;rw[<-hP];have p0:W.cell? ⟨P,0,none⟩=some (.int .i64 t):=by rw[hW,hP];simp
   have p1:W.cell? ⟨P,1,none⟩=some (.int .i64 a):=by rw[hW,hP];simp
   have hbw:Below wr.heap.size wr W:=by rw[hW];exact(Below.refl _ wr).alloc (Nat.le_refl _) _
   have HZW:Hid (zad W w.heap.size (fun _=>(0,0))):=HZ.out.below hbw (by omega);have HSW:Hid (zad W (w.heap.size+1) (zbI l k)):=HS.out.below hbw hB1;have HBW2:Hid (Below w.heap.size w W):=HBW.out.trans (hbw.mono HBW.out.size);have hPB:w.heap.size+1<P:=by omega
   clear hW hP hbw HZ HS c0 c1 c2 HBW;by_cases he:a=3\/a=4
   ·have HF:Hid (zbI l (k+1)=zme (zbI l k) t.toNat (a,(k:Int))):=by
     show zbI l (k+1)=_;rw[zfo (by rw[HOA.out];rcases he with e | e <;> (simp only[e];rfl)),HOA.out]
    obtain⟨⟨q1,q2⟩,hq⟩:∃n,zbI l k t.toNat=n:=⟨_,rfl⟩;obtain⟨d0,d1⟩:=HSW.out.cells (x:=t.toNat) (by omega) hq;have y0:=HSW.out.thaw (t.toNat*2);have y1:=HSW.out.thaw (t.toNat*2+1);have ht0:0<=t:=by omega
    have ht7:t<7:=by omega
    have HLN:Hid (zad ((W.setCell ⟨w.heap.size+1,t.toNat*2,none⟩ (.int .i64 a)).setCell ⟨w.heap.size+1,t.toNat*2+1,none⟩ (.int .i64 k)) (w.heap.size+1) (zbI l (k+1))):=by rw[HF.out];exact HSW.out.set t.toNat a k
    have HBN:Hid (Below (w.heap.size+1) W ((W.setCell ⟨w.heap.size+1,t.toNat*2,none⟩ (.int .i64 a)).setCell ⟨w.heap.size+1,t.toNat*2+1,none⟩ (.int .i64 k))):=by refine((Below.refl (w.heap.size+1) W).setCell ?_ _).setCell ?_ _ <;> exact Nat.le_refl _
    clear hq;rcases he with rfl | rfl
    ·go_wp2_with fail;go_roundw
     case rel=>exact⟨k+1,by omega,by go_num,HBW2.out.trans (HBN.out.mono (by omega)),HZW.out.below HBN.out (by omega),HLN.out⟩
     case measure=>simp[intOf];omega
    ·go_wp2_with fail;go_roundw
     case rel=>exact⟨k+1,by omega,by go_num,HBW2.out.trans (HBN.out.mono (by omega)),HZW.out.below HBN.out (by omega),HLN.out⟩
     case measure=>simp[intOf];omega
   ·have he3:(a == 3)=false:=beq_eq_false_iff_ne.2 fun e=>he (.inl e);have he4:(a == 4)=false:=beq_eq_false_iff_ne.2 fun e=>he (.inr e);have HF:Hid (zbI l (k+1)=zbI l k):=zhs (by rw[HOA.out];show(a == 3 || a == 4)=false;rw[he3,he4];rfl);clear he;go_wp2_with fail;go_roundw
    case rel=>exact⟨k+1,by omega,by go_num,HBW2.out,HZW.out,by rw[HF.out];exact HSW.out⟩
    case measure=>simp[intOf];omega
  ·have hlt':¬(k:Int)<(l.length:Int):=by omega
   obtain rfl:k=l.length:=by omega
   clear hbel;go_wp2_with (first | refine wpList_load_row rfl 121 (.tmp 3) rfl (w.heap.size+1) rfl 121 (cells14 (zbI l l.length)) (0,0) _ HS.out Tryz.underlying121 rfl (zaC _) ?_ | refine wpList_store_row rfl 121 (.tmp 2) (.tmp 29) rfl w.heap.size (cells14 (zbI l l.length)) rfl rfl 121 (cells14 fun _=>(0,0)) HZ.out (zaC _) (by rw[zaA,zaA]) (zeD _) ?_);exact bodyPost_ret (v:=.agg (cells14 (zbI l l.length))) (results_cell_row Tryz.results61 _ _ w.heap.size 121 (cells14 (zbI l l.length)) (0,0) _ rfl (setRow_heap _ _ _ _ _ _ HZ.out) Tryz.underlying121 rfl (zaC _)) rfl ⟨rfl,below_setRow HBW.out (Nat.le_refl _) _⟩
end Go.Proofs.YthlhgiihngcobaaGreatDoor
namespace Go.Proofs.YthlhgiihngcobaaGreatDoor
open Go.RowKit
theorem zbH{W:World}{a:Addr}{v:Value}(o:Obj)(h:W.cell? a=some v):(W.alloc o).cell? a=some v :=(((Below.refl W.heap.size W).alloc (Nat.le_refl _) o).cell (World.block_lt_of_cell? W _ h)).trans h
theorem zbD(W:World)(v:Value)(ty:TypeId):(W.alloc (.cells #[v] ty)).cell? ⟨W.heap.size,0,none⟩=some v:=by simp
def countB(f:Nat->Int × Int)(y n:Int)(o:Op3):Bool:=o.2.1 == 2 && (o.2.2 == y && !byE f o.1 n 4)
theorem zih(f:Nat->Int × Int)(t a x y:Int)(ad:Option Addr)(n cap B1 B2 B3:Nat)(w:World)(h0:0<=t)(h7:t<7)(c1:w.cell? ⟨B1,0,none⟩=some (.int .i64 y))(hE:zad w B2 f)(c3:w.cell? ⟨B3,0,none⟩=some (.slice ad n cap)):Calls Tryz.prog 187 #[.agg #[.int .i64 t,.int .i64 a,.int .i64 x],.pointer (some ⟨B1,0,none⟩),.pointer (some ⟨B2,0,none⟩),.pointer (some ⟨B3,0,none⟩)] w fun e w'=>e=.returned (.bool (countB f y n (t,a,x)))/\Below w.heap.size w w':=by
 have b1:=World.block_lt_of_cell? w _ c1;have b3:=World.block_lt_of_cell? w _ c3;simp only at b1 b3;go_enter Tryz.func187,Tryz.ntmps187
 go_upto_region 1 with(fail)
 obtain⟨W,hW⟩:∃W,W=w.alloc (.cells #[.int .i64 t,.int .i64 a,.int .i64 x] 103):=⟨_,rfl⟩;rw[<-hW];obtain⟨P,hP⟩:∃P,P=w.heap.size:=⟨_,rfl⟩;rw[<-hP];have p0:W.cell? ⟨P,0,none⟩=some (.int .i64 t):=by rw[hW,hP];simp
 have p1:W.cell? ⟨P,1,none⟩=some (.int .i64 a):=by rw[hW,hP];simp
 have p2:W.cell? ⟨P,2,none⟩=some (.int .i64 x):=by rw[hW,hP];simp
 have hbw:Below w.heap.size w W:=by rw[hW];exact(Below.refl _ w).alloc (Nat.le_refl _) _
 have k1:=(hbw.cell (p:=⟨B1,0,none⟩) b1).trans c1;have k3:=(hbw.cell (p:=⟨B3,0,none⟩) b3).trans c3;have HE:Hid (zad W B2 f):=hE.below hbw hE.lt;have HB:Hid (Below w.heap.size w W):=hbw;rw[hP];clear hW hbw hE c1 c3 b1 b3;rw[<-hP];have HP:Hid (P=w.heap.size):=hP;clear hP;by_cases ha:a=2
 ·subst ha;by_cases hx:x=y
  ·subst hx;go_wp2_with (refine wpList_load_row1 rfl 121 (.tmp 2) rfl B2 rfl 121 (cells14 f) (0,0) _ HE.out Tryz.underlying121 rfl (zaC _) ?_);refine(zed f t n _ h0 h7).mono ?_;rintro e w1 ⟨rfl,hb1⟩;have HB1:Hid (Below w.heap.size w w1):=HB.out.trans (hb1.mono HB.out.size);clear hb1;go_wp2_with fail;go_ret;exact⟨by simp[countB],by first | exact HB1.out | (rw[HP.out];exact HB1.out)⟩
  ·have hx':(x == y)=false:=by simpa using hx
   clear hx;go_wp2_with fail;go_ret;exact⟨by simp[countB,hx'],by first | exact HB.out | (rw[HP.out];exact HB.out)⟩
 ·have ha':(a == 2)=false:=by simpa using ha
  clear ha;go_wp2_with fail;go_ret;exact⟨by simp[countB,ha'],by first | exact HB.out | (rw[HP.out];exact HB.out)⟩
def wTo(f:Nat->Int × Int)(y n:Int)(m:List Op3):Nat->Int
 | 0=>0
 | k+1=>if countB f y n (opAt m k)=true then(opAt m k).1 else wTo f y n m k
theorem zmN{f:Nat->Int × Int}{y n:Int}{m:List Op3}{k:Nat}(h:countB f y n (opAt m k)=true):wTo f y n m (k+1)=(opAt m k).1:=if_pos h
theorem zlD{f:Nat->Int × Int}{y n:Int}{m:List Op3}{k:Nat}(h:countB f y n (opAt m k)=false):wTo f y n m (k+1)=wTo f y n m k:=if_neg (by rw[h];decide)
theorem ziS(f:Nat->Int × Int)(y:Int)(m:List Op3)(v:Value)(w:World)(hI:zal w v m)(hl:m.length<=40)(hop:∀o∈m,isOpB o=true):Calls Tryz.prog 130 #[v,.int .i64 y,.agg (cells14 f)] w fun e w'=>e=.returned (.int .i64 (wTo f y m.length m m.length))/\Below w.heap.size w w':=by
 obtain⟨ad,b,off,cap,rfl,had,-,hbB,hops⟩:=hI;have HO:Hid (∀W,Below w.heap.size w W->∀k,k<m.length->ad=some ⟨b,off,none⟩/\W.cell? ⟨b,off+k*3,none⟩=some (.int .i64 (opAt m k).1)/\W.cell? ⟨b,off+k*3+1,none⟩=some (.int .i64 (opAt m k).2.1)/\W.cell? ⟨b,off+k*3+2,none⟩=some (.int .i64 (opAt m k).2.2)):=fun W hW k hk=>⟨had (by omega),(hops.below hW hbB) k hk⟩;have HOP:Hid (∀o∈m,isOpB o=true):=hop;obtain⟨n,hn⟩:∃n,m.length=n:=⟨_,rfl⟩;rw[hn]at hl HO ⊢;have HN:Hid (m.length=n):=hn;clear had hbB hops hop hn;go_enter Tryz.func130,Tryz.ntmps130;go_wp2
 go_loopw [8] (fun v8 wr=>∃(k:Nat) (i:Int),k<=n/\i+1=k/\v8=.int .i64 i/\Below w.heap.size w wr/\wr.cell? ⟨w.heap.size,0,none⟩=some (.slice ad n cap)/\wr.cell? ⟨w.heap.size+1,0,none⟩=some (.int .i64 y)/\zad wr (w.heap.size+2) f/\wTo f y n m k=wTo f y n m n) (fun v8 _=>(intOf v8+1).toNat)
 case atStart =>
  refine⟨n,(n:Int)-1,Nat.le_refl _,by omega,by go_num,(((Below.refl _ w).alloc (Nat.le_refl _) _).alloc (by simp) _).alloc (by simp;omega) _,?_,?_,?_,rfl⟩
  ·exact zbH _ (zbH _ (zbD w _ _))
  ·have h2:=zbD (w.alloc (.cells #[.slice ad n cap] 28)) (.int .i64 y) 3;rw[show(w.alloc (.cells #[.slice ad n cap] 28)).heap.size=w.heap.size+1 by simp]at h2;exact zbH _ h2
  have h1:=zbO ((w.alloc (.cells #[.slice ad n cap] 28)).alloc (.cells #[.int .i64 y] 3)) f;rw[show((w.alloc (.cells #[.slice ad n cap] 28)).alloc (.cells #[.int .i64 y] 3)).heap.size=w.heap.size+2 by simp]at h1;exact h1
 case round =>
  obtain⟨k,i,hk,hik,rfl,hbel,s0,s1,s2,hans⟩:=hrel;have HB:Hid (Below w.heap.size w wr):=hbel;have HE:Hid (zad wr (w.heap.size+2) f):=s2;have HA:Hid (wTo f y n m k=wTo f y n m n):=hans;clear s2 hans;by_cases h0:0<=i
  ·obtain⟨j,rfl⟩:∃j:Nat,i=j:=⟨i.toNat,by omega⟩;have hkj:k=j+1:=by omega
   have HA':Hid (wTo f y n m (j+1)=wTo f y n m n):=by show _=_;rw[<-hkj];exact HA.out
   have hjn:(j:Int)<(n:Int):=by omega
   obtain⟨hadr,c0,c1,c2⟩:=HO.out wr hbel j (by omega);subst hadr;obtain⟨⟨t,a,x⟩,ho⟩:∃o:Op3,opAt m j=o:=⟨_,rfl⟩;have hisop:=HOP.out _ (zaj (show j<m.length by rw[HN.out];omega));rw[ho]at c0 c1 c2 hisop;obtain⟨ht1,ht6⟩:=zaG hisop;have HOA:Hid (opAt m j=(t,a,x)):=ho;simp only at c0 c1 c2 ht1 ht6;have HC:Hid (Calls Tryz.prog 187 #[.agg #[.int .i64 t,.int .i64 a,.int .i64 x],.pointer (some ⟨w.heap.size+1,0,none⟩),.pointer (some ⟨w.heap.size+2,0,none⟩),.pointer (some ⟨w.heap.size,0,none⟩)] wr fun e w'=>e=.returned (.bool (countB f y n (t,a,x)))/\Below wr.heap.size wr w'):=zih f t a x y _ n cap _ _ _ wr (by omega) (by omega) s1 HE.out s0;have b0:=World.block_lt_of_cell? wr _ s0;have b1:=World.block_lt_of_cell? wr _ s1;simp only at b0 b1;clear ho hisop hkj hik HA hbel;cases hc:countB f y n (t,a,x)with
   | false =>
     rw[hc]at HC;have HM:Hid (wTo f y n m (j+1)=wTo f y n m j):=zlD (by rw[HOA.out];exact hc);clear hc;go_wp2_with (go_at_call 187;refine HC.out.mono ?_;rintro e w1 ⟨rfl,hb1⟩);have r0:=(hb1.cell (p:=⟨w.heap.size,0,none⟩) b0).trans s0;have r1:=(hb1.cell (p:=⟨w.heap.size+1,0,none⟩) b1).trans s1;go_roundw
     case rel=>exact⟨j,(j:Int)-1,by omega,by omega,by go_num,HB.out.trans (hb1.mono HB.out.size),r0,r1,HE.out.below hb1 HE.out.lt,by rw[<-HM.out];exact HA'.out⟩
     case measure=>simp[intOf]
   | true =>
     rw[hc]at HC;have HM:Hid (wTo f y n m n=t):=by show wTo f y n m n=t;rw[<-HA'.out,zmN (by rw[HOA.out];exact hc),HOA.out]
     clear hc;go_wp2_with (go_at_call 187;refine HC.out.mono ?_;rintro e w1 ⟨rfl,hb1⟩;have r0:=(hb1.cell (p:=⟨w.heap.size,0,none⟩) b0).trans s0;have q0:=(hb1.cell (p:=⟨b,off+j*3,none⟩) (World.block_lt_of_cell? wr _ c0)).trans c0);go_ret;exact⟨by rw[HM.out];rfl,HB.out.trans (hb1.mono HB.out.size)⟩
  ·obtain rfl:k=0:=by omega
   have hi:¬0<=i:=h0;clear hik;go_wp2_with fail;go_ret;exact⟨by rw[<-HA.out];rfl,HB.out⟩
end Go.Proofs.YthlhgiihngcobaaGreatDoor
