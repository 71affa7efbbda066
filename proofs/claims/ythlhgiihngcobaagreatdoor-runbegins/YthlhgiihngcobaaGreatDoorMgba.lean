/-
  PROVED HERE: view.Order gives the first order by numbers along which what is done looks the same, ErrNone where there is; plain facts, with no word of the program; faces.endsOf tells how each deal of a right list ends, and where, as a row of seven; faces.ends' method ended tells who has committed or aborted by a place.
  Conditions: none but those that each theorem's own premises say.
-/
import Derived.Test.YthlhgiihngcobaaGreatDoorMgay
import Derived.Test.YthlhgiihngcobaaGreatDoorMgaz
import Derived.Test.YthlhgiihngcobaaGreatDoorMgam
import Derived.Test.YthlhgiihngcobaaGreatDoorMgak
import Derived.Test.YthlhgiihngcobaaGreatDoorMgag
import Derived.Laws.Rows
import Derived.Deep.Cut
import Derived.BigFrame
import Derived.Laws.CopyOwn
set_option maxHeartbeats 32000000
set_option maxRecDepth 100000
namespace Go.Proofs.YthlhgiihngcobaaGreatDoor
open Go.RowKit Go.Maps
theorem vstore_func{P:Program}(w:World)(f:Fn)(ts cs:Array Value)(old:Value)(T:TypeId)(n:Nat)(hn:n=w.heap.size):(store ⟨n,0,none⟩ (.func f ts cs)).run P (w.alloc (.cells #[old] T))=.ok () (w.alloc (.cells #[.func f ts cs] T)):=by subst hn;rw[run_store _ _ _ _ _ rfl];simp[World.setCell_alloc_new]
theorem zn6(dv sv:Value)(w:World):zfg ((((w.alloc (.cells #[dv] 24)).alloc (.cells #[sv] 27)).alloc (.cells #[.slice none 0 0] 24)).alloc (.cells #[.func (.func 128) #[] #[.pointer (some ⟨w.heap.size+1+1,0,none⟩),.pointer (some ⟨w.heap.size,0,none⟩),.pointer (some ⟨w.heap.size+1,0,none⟩),.pointer (some ⟨w.heap.size+1+1+1,0,none⟩)]] 182)) (w.heap.size+1+1) w.heap.size (w.heap.size+1) (w.heap.size+1+1+1) (w.heap.size+4) dv sv (.slice none 0 0) []/\Below w.heap.size w ((((w.alloc (.cells #[dv] 24)).alloc (.cells #[sv] 27)).alloc (.cells #[.slice none 0 0] 24)).alloc (.cells #[.func (.func 128) #[] #[.pointer (some ⟨w.heap.size+1+1,0,none⟩),.pointer (some ⟨w.heap.size,0,none⟩),.pointer (some ⟨w.heap.size+1,0,none⟩),.pointer (some ⟨w.heap.size+1+1+1,0,none⟩)]] 182)):=by
 refine⟨⟨?_,?_,World.ownsRow_nil _ _ _ _,?_,?_,?_,⟨by omega,by omega,by omega,by omega,by simp⟩,by omega,by omega,by omega⟩,((((Below.refl _ w).alloc (Nat.le_refl _) _).alloc (by simp) _).alloc (by simp;omega) _).alloc (by simp;omega) _⟩
 ·rw[World.cell?_alloc_past _ _ _ (by simp),World.cell?_alloc_at _ _ _ _ (by simp)];rfl
 ·rw[World.frozen?_alloc_past _ _ _ (by simp),World.frozen?_alloc_at _ _ _ _ (by simp)]
 ·rw[World.cell?_alloc_past _ _ _ (by simp;omega),World.cell?_alloc_past _ _ _ (by simp;omega),World.cell?_alloc_past _ _ _ (by simp),World.cell?_alloc_at _ _ _ _ rfl];rfl
 ·rw[World.cell?_alloc_past _ _ _ (by simp),World.cell?_alloc_past _ _ _ (by simp),World.cell?_alloc_at _ _ _ _ (by simp)];rfl
 ·rw[World.cell?_alloc_at _ _ _ _ (by simp)];rfl
theorem zuq(ds:List Int)(dv:Value)(N:Nat)(pa pb:Value)(p:List Int->Bool)(w:World)(hlen:ds.length<=6)(hd:zaf w dv ds)
  (hcall:∀(args:Array Value) (W:World),(callFunc N args).run Tryz.prog W=.ok (.enter N args) W)
  (hsays:∀W,Below w.heap.size w W->∀ov b,zaf W ov b->zgW ds b->b.length=ds.length->Calls Tryz.prog N #[ov,pa,pb] W fun e W'=>e=.returned (.bool (p b))/\Below W.heap.size W W') :
  Calls Tryz.prog 58 #[dv,.func (.func N) #[] #[pa,pb]] w fun e w'=>∃(v':Value) (r:List Int) (ok:Bool),e=.returned (.tuple #[v',.bool ok])/\((tryO ds p ds.length []=some r/\ok=true)\/(tryO ds p ds.length []=none/\r=[]/\ok=false))/\zaf w' v' r/\Below w.heap.size w w':=by
 have HD:Hid (∀W,Below w.heap.size w W->zaf W dv ds):=fun W hW=>hd.below hW (Nat.le_refl _);have HSY:Hid (∀W,Below w.heap.size w W->∀ov b,zaf W ov b->zgW ds b->b.length=ds.length->Calls Tryz.prog N #[ov,pa,pb] W fun e W'=>e=.returned (.bool (p b))/\Below W.heap.size W W'):=hsays;have HCL:Hid (∀(args:Array Value) (W:World),(callFunc N args).run Tryz.prog W=.ok (.enter N args) W):=hcall;obtain⟨ad,b0,off,cap,hdv,-⟩:=hd;subst hdv;clear hsays hcall;go_enter Tryz.func58,Tryz.ntmps58;go_wp2_with fail;rw[vstore_func _ _ _ _ _ _ _ (by simp)];go_wp2_with fail;have hst:=zn6 (.slice ad ds.length cap) (.func (.func N) #[] #[pa,pb]) w;obtain⟨W0,hW0⟩:∃W0,W0=((((w.alloc (.cells #[.slice ad ds.length cap] 24)).alloc (.cells #[.func (.func N) #[] #[pa,pb]] 27)).alloc (.cells #[.slice none 0 0] 24)).alloc (.cells #[.func (.func 128) #[] #[.pointer (some ⟨w.heap.size+1+1,0,none⟩),.pointer (some ⟨w.heap.size,0,none⟩),.pointer (some ⟨w.heap.size+1,0,none⟩),.pointer (some ⟨w.heap.size+1+1+1,0,none⟩)]] 182)):=⟨_,rfl⟩;rw[<-hW0]at hst ⊢;clear hW0;obtain⟨hG,hbe⟩:=hst;have HA:zAZ ds (.slice ad ds.length cap) N pa pb p (w.heap.size+1+1) (w.heap.size+4) W0:=⟨hlen,fun W hW=>HD.out W (hbe.trans (hW.under (by omega) (by omega))),HCL.out,fun W hW=>HSY.out W (hbe.trans (hW.under (by omega) (by omega)))⟩;refine(zzF HA ds.length [] W0 _ (by simp) (zgW.nil ds) hG (zbE.refl _ _ _)).mono ?_;rintro e w1 ⟨⟨v1,r1,hor,hG1⟩,hp1⟩;have HB:Hid (Below w.heap.size w w1):=hbe.trans (hp1.under (by omega) (by omega));have c0:=hG1.order;have HI:Hid (zaf w1 v1 r1):=zap hG1.own rfl;obtain⟨ad1,cap1,hv1⟩:=zfR hG1.own;subst hv1;clear hG hbe hG1 hp1 HA;rcases hor with⟨hs,rfl⟩ | ⟨hs,hr,rfl⟩
 ·have HS:Hid (tryO ds p ds.length []=some r1):=hs;clear hs;go_wp2_with fail;go_ret2;exact⟨_,r1,true,rfl,.inl ⟨HS.out,rfl⟩,HI.out,HB.out⟩
 ·have HS:Hid (tryO ds p ds.length []=none/\r1=[]):=⟨hs,hr⟩;clear hs hr;go_wp2_with fail;go_ret2;exact⟨_,r1,false,rfl,.inr ⟨HS.out.1,HS.out.2,rfl⟩,HI.out,HB.out⟩
theorem zqJ{ds b:List Int}(hd:ds.Pairwise (· < ·))(hB:zgW ds b)(hl:b.length=ds.length):sortI b=ds:=by have hp:b.Perm ds:=zh9 b ds hB.once hB.all (by omega);refine(zwt hd).2 ⟨hl,zd8 _ _ (zjz b) hd fun x=>?_⟩;rw[zj4];exact hp.mem_iff
theorem zqd(d:List Op3)(b:List Int)(ov dv:Value)(pa pb M:Nat)(D:DataW Unit)(w:World)(hc:(chk d).2=0)(hdd:doneL d=d)(hs:sortI b=zas d)(hO:zaf w ov b)(hI:zai w dv d)(h1:w.cell? ⟨pa,0,none⟩=some dv)(hS:zaU w pb M (zaC d d.length))(hL:zb2 w M d d.length D):Calls Tryz.prog 55 #[ov,.pointer (some ⟨pa,0,none⟩),.pointer (some ⟨pb,0,none⟩)] w fun e w'=>e=.returned (.bool (zt9 d b))/\Below w.heap.size w w':=by have hser:=zBu d b dv ov w hI hO hc (by rw[hdd];exact hs);rw[hdd]at hser;have HSER:Hid (Calls Tryz.prog 56 #[dv,ov] w fun e w'=>∃v',e=.returned (.tuple #[v',.nilIface])/\zai w' v' (alongL d b)/\Below w.heap.size w w'):=hser;have HC:Hid ((chk d).2=0/\(chk (alongL d b)).2=0):=⟨hc,zuZ hc hs⟩;have HS:Hid (zaU w pb M (zaC d d.length)):=hS;have HL:Hid (zb2 w M d d.length D):=hL;have hbl:=hS.lt;have hMl:=hL.own.lt;obtain⟨ad,b0,off,cap,hdv,-⟩:=hI;subst hdv;clear hser hc hs hO hS hL hdd;go_enter Tryz.func55,Tryz.ntmps55;go_wp2_with fail;refine HSER.out.mono ?_;rintro e w1 ⟨v1,rfl,hI1,hb1⟩;have HI1:Hid (zai w1 v1 (alongL d b)):=hI1;clear hI1;go_wp2_with fail;refine(nms_ok (alongL d b) _ _ HI1.out HC.out.2).mono ?_;rintro e w2 ⟨v2,rfl,hN2,hb2⟩;obtain⟨ad2,cap2,rfl⟩:=zih hN2;have HN2:Hid (zbo w2 (.slice ad2 (alongL d b).length cap2) (zaY (alongL d b) (alongL d b).length)):=hN2;have hb02:=hb1.trans (hb2.mono hb1.size);have HS2:Hid (zaU w2 pb M (zaC d d.length)):=HS.out.below hb02 hbl;have HL2:Hid (zb2 w2 M d d.length D):=HL.out.same (hb02.block _ hMl);clear hN2 hb1 hb2 HS HL h1;go_wp2_with (refine zdJ rfl 109 (.tmp 2) rfl pb rfl 109 (cells29 M (zaC d d.length)) (0,0) _ HS2.out Tryz.underlying109 rfl (zdA _ _) ?_);refine(zpY d (alongL d b) M D _ _ (zaQ HC.out.1) (chk_ops HC.out.1) (zaQ HC.out.2) (chk_ops HC.out.2) HL2.out HN2.out).mono ?_;rintro e w3 ⟨rfl,hb3⟩;go_wp2_with fail;go_ret;exact⟨rfl,hb02.trans (hb3.mono hb02.size)⟩
theorem zn7(args:Array Value)(W:World):(callFunc 55 args).run Tryz.prog W=.ok (.enter 55 args) W:=by
 kernel_rfl
theorem zqH(l:List Op3)(v:Value)(w:World)(h:zai w v l)(hc:(chk l).2=0):Calls Tryz.prog 23 #[v] w fun e w'=>((∃(r:List Int) (v':Value),ziR (doneL l)=some r/\e=.returned (.tuple #[v',.nilIface])/\zaf w' v' r)\/(ziR (doneL l)=none/\e=.returned (.tuple #[.slice none 0 0,.iface 80 (.int .i64 5)])))/\Below w.heap.size w w':=by
 have hdn:=done_ok l v w h hc;have hcd:=chk_done hc;have hdd:=zvB l;obtain⟨d,hd⟩:∃d,doneL l=d:=⟨_,rfl⟩;rw[hd]at hdn hcd hdd ⊢;have hl:=zaQ hcd;have HC:Hid ((chk d).2=0):=hcd;have HDD:Hid (doneL d=d):=hdd;have HDN:Hid (Calls Tryz.prog 51 #[v] w fun e w'=>∃v',e=.returned (.tuple #[v',.nilIface])/\zai w' v' d/\Below w.heap.size w w'):=hdn;clear hdn hcd hdd hd h hc;go_enter Tryz.func23,Tryz.ntmps23;go_wp2_with fail;refine HDN.out.mono ?_;rintro e w1 ⟨v1,rfl,hI1,hb1⟩;have HI1:Hid (zai w1 v1 d):=hI1;obtain⟨ad,b,off,cap,hv1,-⟩:=hI1;subst hv1;obtain⟨W1,hW1⟩:∃W1,W1=w1.alloc (.cells #[.slice ad d.length cap] 28):=⟨_,rfl⟩;have hbW:Below w1.heap.size w1 W1:=by rw[hW1];exact(Below.refl _ w1).alloc (Nat.le_refl _) _
 have HB1:Hid (Below w.heap.size w W1):=hb1.trans (hbW.mono hb1.size);have HIW:Hid (zai W1 (.slice ad d.length cap) d):=HI1.out.below hbW (Nat.le_refl _);have c1:W1.cell? ⟨w1.heap.size,0,none⟩=some (.slice ad d.length cap):=by rw[hW1];simp
 have hl1:w1.heap.size<W1.heap.size:=World.block_lt_of_cell? W1 _ c1;clear hb1 hbW HI1
 go_upto_region 2 with(fail)
 rw[<-hW1];clear hW1;go_wp2_with fail;refine(deals_ok d _ _ HIW.out HC.out).mono ?_;rintro e w2 ⟨v2,rfl,hI2,hb2⟩;have HI2:Hid (zaf w2 v2 (zas d)):=hI2;obtain⟨ad2,b2,off2,cap2,hv2,-⟩:=hI2;subst hv2;have c2:w2.cell? ⟨w1.heap.size,0,none⟩=some (.slice ad d.length cap):=(hb2.cell (p:=⟨w1.heap.size,0,none⟩) hl1).trans c1;have HIW2:Hid (zai w2 (.slice ad d.length cap) d):=HIW.out.below hb2 (Nat.le_refl _);have HB2:Hid (Below w.heap.size w w2):=HB1.out.trans (hb2.mono HB1.out.size);have hl2:w1.heap.size<w2.heap.size:=World.block_lt_of_cell? w2 _ c2;clear c1 hb2 HB1 HIW hl1;go_wp2_with fail;refine(nms_ok d _ _ HIW2.out HC.out).mono ?_;rintro e w3 ⟨v3,rfl,hN3,hb3⟩;obtain⟨ad3,cap3,rfl⟩:=zih hN3;have HN3:Hid (zbo w3 (.slice ad3 d.length cap3) (zaY d d.length)):=hN3;have c3:w3.cell? ⟨w1.heap.size,0,none⟩=some (.slice ad d.length cap):=(hb3.cell (p:=⟨w1.heap.size,0,none⟩) hl2).trans c2;have HIW3:Hid (zai w3 (.slice ad d.length cap) d):=HIW2.out.below hb3 (Nat.le_refl _);have HI3:Hid (zaf w3 (.slice ad2 (zas d).length cap2) (zas d)):=HI2.out.below hb3 (Nat.le_refl _);have HB3:Hid (Below w.heap.size w w3):=HB2.out.trans (hb3.mono HB2.out.size);have hl3:w1.heap.size<w3.heap.size:=World.block_lt_of_cell? w3 _ c3;clear c2 hb3 HB2 HIW2 HI2 hN3 hl2;go_wp2_with fail;refine(look_any d _ _ HN3.out hl (chk_ops HC.out)).mono ?_;rintro e w4 ⟨M,D,rfl,hM,hL4,hb4⟩;have HF4:Hid ((w4.alloc (.cells zc1 109)).heap[w4.heap.size]? = some (.cells zc1 109 (0,0))):=heap_alloc_new _ _;have c4:w4.cell? ⟨w1.heap.size,0,none⟩=some (.slice ad d.length cap):=(hb4.cell (p:=⟨w1.heap.size,0,none⟩) hl3).trans c3;have HIW4:Hid (zai w4 (.slice ad d.length cap) d):=HIW3.out.below hb4 (Nat.le_refl _);have HI4:Hid (zaf w4 (.slice ad2 (zas d).length cap2) (zas d)):=HI3.out.below hb4 (Nat.le_refl _);have HB4:Hid (Below w.heap.size w w4):=HB3.out.trans (hb4.mono HB3.out.size);have HL4:Hid (zb2 w4 M d d.length D):=hL4;have hl4:w1.heap.size<w4.heap.size:=World.block_lt_of_cell? w4 _ c4;clear c3 hb4 HB3 HIW3 HI3 HN3 hL4 hl3 hM
 go_upto_region 11 with(first | refine wpList_store_row rfl 109 (.tmp 8) (.tmp 37) rfl w4.heap.size (cells29 M (zaC d d.length)) rfl rfl 109 zc1 HF4.out (zdA _ _) (by rw[zdS,zhp]) (zhI _ _) ?_ | fail)
 refine znB w4 _ _ _ rfl ?_;intro W hSW hBW;have c5:W.cell? ⟨w1.heap.size,0,none⟩=some (.slice ad d.length cap):=(hBW.cell (p:=⟨w1.heap.size,0,none⟩) hl4).trans c4;have HIW5:Hid (zai W (.slice ad d.length cap) d):=HIW4.out.below hBW (Nat.le_refl _);have HI5:Hid (zaf W (.slice ad2 (zas d).length cap2) (zas d)):=HI4.out.below hBW (Nat.le_refl _);have HB5:Hid (Below w.heap.size w W):=HB4.out.trans (hBW.mono HB4.out.size);have HL5:Hid (zb2 W M d d.length D):=HL4.out.same (hBW.block _ HL4.out.own.lt);have HS5:Hid (zaU W w4.heap.size M (zaC d d.length)):=hSW;have hl5:w1.heap.size<W.heap.size:=World.block_lt_of_cell? W _ c5;have HFO:Hid (Calls Tryz.prog 58 #[.slice ad2 (zas d).length cap2,.func (.func 55) #[] #[.pointer (some ⟨w1.heap.size,0,none⟩),.pointer (some ⟨w4.heap.size,0,none⟩)]] W fun e w'=>∃(v':Value) (r:List Int) (ok:Bool),e=.returned (.tuple #[v',.bool ok])/\((ziR d=some r/\ok=true)\/(ziR d=none/\r=[]/\ok=false))/\zaf w' v' r/\Below W.heap.size W w'):=by refine zuq (zas d) _ _ _ _ (zt9 d) W (zcc d 6) HI5.out zn7 ?_;intro W' hW' ov bb hO hB hlen;exact zqd d bb ov (.slice ad d.length cap) w1.heap.size w4.heap.size M D W' HC.out HDD.out (zqJ (zdx d) hB hlen) hO (HIW5.out.below hW' (Nat.le_refl _)) ((hW'.cell (p:=⟨w1.heap.size,0,none⟩) hl5).trans c5) (HS5.out.below hW' HS5.out.lt) (HL5.out.same (hW'.block _ HL5.out.own.lt))
 clear hSW hBW HF4 c4 c5 HIW4 HI4 HB4 HL4;go_wp2_with fail;refine HFO.out.mono ?_;rintro e w6 ⟨v6,r,ok,rfl,hor,hI6,hb6⟩;have HI6:Hid (zaf w6 v6 r):=hI6;have HB6:Hid (Below w.heap.size w w6):=HB5.out.trans (hb6.mono HB5.out.size);clear hI6 hb6;rcases hor with⟨hs,rfl⟩ | ⟨hs,-,rfl⟩
 ·have HS:Hid (ziR d=some r):=hs;clear hs;go_wp2_with fail;go_ret2;exact⟨.inl ⟨r,_,HS.out,rfl,HI6.out⟩,HB6.out⟩
 ·have HS:Hid (ziR d=none):=hs;clear hs;go_wp2_with fail;go_ret2;exact⟨.inr ⟨HS.out,rfl⟩,HB6.out⟩
end Go.Proofs.YthlhgiihngcobaaGreatDoor
namespace Go.Proofs.YthlhgiihngcobaaGreatDoor
def zyN(f:Nat->Int × Int)(x:Nat)(p:Int × Int):Nat->Int × Int:=fun i=>if i=x then p else f i
def zdg(h:List Op3):Nat->Nat->Int × Int
 | 0=>fun _=>(0,0)
 | k+1=>if zaM (opAt h k).2.1=true then zyN (zdg h k) (opAt h k).1.toNat ((opAt h k).2.1,(k:Int))else zdg h k
theorem zkj{h:List Op3}{k:Nat}(he:zaM (opAt h k).2.1=true):zdg h (k+1)=zyN (zdg h k) (opAt h k).1.toNat ((opAt h k).2.1,(k:Int)):=if_pos he
theorem znD{h:List Op3}{k:Nat}(he:zaM (opAt h k).2.1=false):zdg h (k+1)=zdg h k:=if_neg (by rw[he];decide)
theorem endsB_two{a:Int}(h:zaM a=true):a=3\/a=4:=by simpa[zaM]using h
theorem zip{h:List Op3}{x:Nat}:∀ {k:Nat},(zdg h k x).1≠0->∃m:Nat,m<k/\(opAt h m).1.toNat=x/\zaM (opAt h m).2.1=true/\zdg h k x=((opAt h m).2.1,(m:Int)):=by
 intro k
 induction k with
 | zero=>intro h0;exact absurd rfl h0
 | succ k ih =>
   intro h0;cases he:zaM (opAt h k).2.1 with
   | false =>rw[znD he]at h0 ⊢;obtain⟨m,m1,m2⟩:=ih h0;exact⟨m,by omega,m2⟩
   | true =>
     rw[zkj he]at h0 ⊢;unfold zyN at h0 ⊢;by_cases hx:x=(opAt h k).1.toNat
     ·rw[if_pos hx];exact⟨k,by omega,hx.symm,he,rfl⟩
     ·rw[if_neg hx]at h0 ⊢;obtain⟨m,m1,m2⟩:=ih h0;exact⟨m,by omega,m2⟩
theorem zxL{h:List Op3}{m x:Nat}(hx:(opAt h m).1.toNat=x)(he:zaM (opAt h m).2.1=true):∀ {k:Nat},m<k->(zdg h k x).1≠0:=by
 intro k
 induction k with
 | zero=>intro h;omega
 | succ k ih =>
   intro hk;cases hk':zaM (opAt h k).2.1 with
   | false =>
     rw[znD hk'];refine ih ?_;rcases Nat.lt_or_ge m k with e | e
     ·exact e
     ·rw[show m=k by omega,hk']at he;cases he
   | true =>
     rw[zkj hk'];unfold zyN;by_cases hx':x=(opAt h k).1.toNat
     ·rw[if_pos hx'];rcases endsB_two hk' with e | e <;> simp[e]
     ·rw[if_neg hx'];refine ih ?_;rcases Nat.lt_or_ge m k with e | e
      ·exact e
      ·rw[show m=k by omega]at hx;exact absurd hx.symm hx'
def byE(f:Nat->Int × Int)(t i a:Int):Bool:=(f t.toNat).1 == a && decide ((f t.toNat).2<i)
theorem zsI{h:List Op3}(hc:zgK h)(hop:∀o∈h,isOpB o=true){m k:Nat}(hm:m<h.length)(hk:k<h.length)(ht:(opAt h m).1.toNat=(opAt h k).1.toNat)(e1:zaM (opAt h m).2.1=true)(e2:zaM (opAt h k).2.1=true):m=k:=by
 have t1:=zbu (hop _ (zal hm));have t2:=zbu (hop _ (zal hk));have he:(opAt h m).1=(opAt h k).1:=by omega
 rcases Nat.lt_trichotomy m k with e | e | e
 ·exact absurd he (zfS hc e hk e1)
 ·exact e
 ·exact absurd he.symm (zfS hc e hm e2)
theorem zs0{h:List Op3}(hc:zgK h)(hop:∀o∈h,isOpB o=true){m:Nat}(hm:m<h.length)(he:zaM (opAt h m).2.1=true):zdg h h.length (opAt h m).1.toNat=((opAt h m).2.1,(m:Int)):=by obtain⟨k,k1,k2,k3,k4⟩:=zip (zxL rfl he hm);rw[k4,zsI hc hop k1 hm k2 k3 he]
theorem zjW{h:List Op3}(hc:zgK h)(hop:∀o∈h,isOpB o=true){t a:Int}(ht:1<=t)(ha:a=3\/a=4){i:Nat}(hi:i<=h.length):byE (zdg h h.length) t i a=(zbl h t i == a):=by
 rw[Bool.eq_iff_iff];unfold byE;simp only[Bool.and_eq_true,beq_iff_eq,decide_eq_true_eq];constructor
 ·rintro⟨h1,h2⟩;obtain⟨m,m1,m2,m3,m4⟩:=zip (h:=h) (x:=t.toNat) (k:=h.length) (by omega);rw[m4]at h1 h2;have tm:=zbu (hop _ (zal m1));rw[zki hc hop hi (show m<i by simpa using h2) (show(opAt h m).1=t by omega) (by simp only at h1;omega)];exact h1
 ·intro h1;obtain⟨k,k1,k2,k3,k4⟩:=zcs t hi (by omega);have hk:k<h.length:=by omega
  have hek:zaM (opAt h k).2.1=true:=by rw[zeq (hop _ (zal hk))];simpa using k3
  have:=zs0 hc hop hk hek;rw[k2]at this;rw[this];exact⟨by simp only;omega,by simp only;omega⟩
def zeQ(h:List Op3):Nat->List zab
 | 0=>[]
 | k+1=>if(opAt h k).2.1=1 then zeQ h k++[((k:Int),zbk h k)]else zeQ h k
theorem zkV(h:List Op3)(k:Nat):(zeQ h k).length<=k:=by
 induction k with
 | zero=>exact Nat.le_refl _
 | succ k ih =>
   rw[zeQ];split
   ·rw[List.length_append];simp;omega
   ·omega
theorem ztM{h:List Op3}{e:zab}:∀ {k:Nat},e∈zeQ h k↔∃i:Nat,i<k/\(opAt h i).2.1=1/\e=((i:Int),zbk h i):=by
 intro k
 induction k with
 | zero=>exact⟨fun h=>absurd h (by simp[zeQ]),fun⟨i,h,_⟩=>absurd h (by omega)⟩
 | succ k ih =>
   rw[zeQ];by_cases h1:(opAt h k).2.1=1
   ·rw[if_pos h1,List.mem_append,ih];constructor
    ·rintro(⟨i,i1,i2⟩ | h2)
     ·exact⟨i,by omega,i2⟩
     ·exact⟨k,by omega,h1,by simpa using h2⟩
    ·rintro⟨i,i1,i2,i3⟩;rcases Nat.lt_or_ge i k with e | e
     ·exact .inl ⟨i,e,i2,i3⟩
     ·rw[show i=k by omega]at i3;exact .inr (by simp[i3])
   ·rw[if_neg h1,ih];constructor
    ·rintro⟨i,i1,i2⟩;exact⟨i,by omega,i2⟩
    ·rintro⟨i,i1,i2,i3⟩;refine⟨i,?_,i2,i3⟩;rcases Nat.lt_or_ge i k with e | e
     ·exact e
     ·rw[show i=k by omega]at i2;exact absurd i2 h1
def zxT(h:List Op3)(s:zab):Bool:=s.2 == 0 || s.2 == (opAt h s.1.toNat).1
def zeT(h:List Op3):List zab:=(zeQ h h.length).filter fun s=>!zxT h s
theorem zeD{h:List Op3}{e:zab}:e∈zeT h↔∃i:Nat,i<h.length/\(opAt h i).2.1=1/\e=((i:Int),zbk h i)/\zbk h i≠0/\zbk h i≠(opAt h i).1:=by
 unfold zeT;rw[List.mem_filter,ztM];constructor
 ·rintro⟨⟨i,i1,i2,rfl⟩,h2⟩;simp[zxT]at h2;exact⟨i,i1,i2,rfl,h2.1,h2.2⟩
 ·rintro⟨i,i1,i2,rfl,h2,h3⟩;refine⟨⟨i,i1,i2,rfl⟩,?_⟩;simp[zxT];exact⟨h2,h3⟩
theorem zkB{h:List Op3}(hop:∀o∈h,isOpB o=true){i:Nat}(hi:i<h.length)(h0:zbk h i≠0):1<=zbk h i/\zbk h i<=6:=by obtain⟨m,m1,_,_,_,m5⟩:=zm8 (show fromTo h (opAt h i).2.2 i i≠0 from h0);have:=zbu (hop _ (zal (show m<h.length by omega)));unfold zbk;omega
def zeV(h:List Op3)(f:Nat->Int × Int)(s:zab):Bool:=(f (opAt h s.1.toNat).1.toNat).1 == 3 && !byE f s.2 (f (opAt h s.1.toNat).1.toNat).2 3
def zhu(f:Nat->Int × Int)(s:zab):Bool:=!byE f s.2 s.1 3
def zgo(h:List Op3)(f:Nat->Int × Int)(p:zab):Bool:=!(byE f (opAt h p.1.toNat).1 p.2 3 || byE f (opAt h p.1.toNat).1 p.2 4)
def ziU(h:List Op3)(f:Nat->Int × Int)(p:zab):Bool:=(opAt h p.1.toNat).2.1 == 2 && zgo h f p
theorem zkw{α:Type}{l:List α}{p:α->Bool}:(!l.any p)=true↔∀x∈l,p x=false:=by simp
theorem zxy{h:List Op3}(hc:zgK h)(hop:∀o∈h,isOpB o=true):(!(zeT h).any (zhu (zdg h h.length)))=zxz h:=by
 rw[Bool.eq_iff_iff,zkw];unfold zxz;rw[zpP];have key:∀i,i<h.length->zbk h i≠0->zhu (zdg h h.length) ((i:Int),zbk h i)=!(zbl h (zbk h i) i == 3):=fun i hi h0=>by unfold zhu;rw[zjW hc hop (zkB hop hi h0).1 (.inl rfl) (Nat.le_of_lt hi)]
 constructor
 ·intro H i hi;unfold cauAt;cases h1:(opAt h i).2.1 == 1 with
  | false=>rfl
  | true =>
    cases h2:zbk h i != 0 with
    | false=>rfl
    | true =>
      cases h3:zbk h i != (opAt h i).1 with
      | false=>rfl
      | true =>
        have h2':zbk h i≠0:=by simpa using h2
        have:=H _ (zeD.2 ⟨i,hi,by simpa using h1,rfl,h2',by simpa using h3⟩);rw[key i hi h2']at this;simpa using this
 ·intro H e he;obtain⟨i,i1,i2,rfl,i4,i5⟩:=zeD.1 he;rw[key i i1 i4];have:=H i i1;unfold cauAt at this;simpa[i2,i4,i5]using this
theorem zoT{h:List Op3}(hc:zgK h)(hop:∀o∈h,isOpB o=true){t:Int}(ht:1<=t):((zdg h h.length t.toNat).1=3/\(zdg h h.length t.toNat).2=zdL h t/\0<=zdL h t)\/((zdg h h.length t.toNat).1≠3/\zdL h t=-1):=by
 by_cases h3:(zdg h h.length t.toNat).1=3
 ·obtain⟨m,m1,m2,m3,m4⟩:=zip (h:=h) (x:=t.toNat) (k:=h.length) (by omega);have tm:=zbu (hop _ (zal m1));rw[m4]at h3 ⊢;have hw:=zq0 (h:=h) (t:=t) (m:=m) (by omega) h3 m1;obtain⟨q,q1,q2,q3,q4⟩:=zcH hw.1;have hq:q=m:=zsI hc hop q1 m1 (by omega) (by rw[q4];rfl) m3;subst hq;have e:zdL h t=q:=q2;exact .inl ⟨h3,by rw[e],by rw[e];omega⟩
 ·refine .inr ⟨h3,?_⟩;by_cases hw:zdL h t=-1
  ·exact hw
  ·obtain⟨q,q1,q2,q3,q4⟩:=zcH hw;have:=zs0 hc hop q1 (by rw[q4];rfl);rw[q3]at this;rw[this]at h3;exact absurd q4 h3
theorem zvY{h:List Op3}(hc:zgK h)(hop:∀o∈h,isOpB o=true):(!(zeT h).any (zeV h (zdg h h.length)))=zwB h:=by
 rw[Bool.eq_iff_iff,zkw];unfold zwB;rw[zpP]
 have key:∀i,i<h.length->zbk h i≠0->zbk h i≠(opAt h i).1->zeV h (zdg h h.length) ((i:Int),zbk h i)=(decide (0<=zdL h (opAt h i).1) && (decide (zdL h (zbk h i)<0) || decide (zdL h (opAt h i).1<zdL h (zbk h i)))):=fun i hi h0 hne=>by
  have ti:=zbu (hop _ (zal hi));have tf:=zkB hop hi h0;have w1:=zoT hc hop ti.1;have w2:=zoT hc hop tf.1
  have hun:0<=zdL h (opAt h i).1->zdL h (opAt h i).1≠zdL h (zbk h i):=fun hz he=>by
   obtain⟨q,q1,q2,q3,q4⟩:=zcH (show whenTo h (opAt h i).1 h.length≠-1 from fun h=>by unfold zdL at hz;omega);obtain⟨p,p1,p2,p3,p4⟩:=zcH (show whenTo h (zbk h i) h.length≠-1 from fun h=>by unfold zdL at hz he;omega);have:(q:Int)=p:=by rw[<-q2,<-p2];exact he
   have:q=p:=by omega
   subst this;rw[q3]at p3;exact hne p3.symm
  unfold zeV byE;simp only[Int.toNat_natCast];rw[Bool.eq_iff_iff];simp only[Bool.and_eq_true,beq_iff_eq,Bool.not_eq_true',Bool.and_eq_false_iff,beq_eq_false_iff_ne,decide_eq_false_iff_not,decide_eq_true_eq,Bool.or_eq_true,ne_eq];constructor
  ·rintro⟨a1,a2⟩;rcases w1 with⟨b1,b2,b3⟩ | ⟨b1,_⟩
   ·refine⟨b3,?_⟩;have hu:=hun b3;rcases w2 with⟨c1,c2,c3⟩ | ⟨_,c2⟩
    ·rcases a2 with a2 | a2
     ·exact absurd c1 a2
     ·right;omega
    ·left;omega
   ·exact absurd a1 b1
  ·rintro⟨a1,a2⟩;rcases w1 with⟨b1,b2,b3⟩ | ⟨_,b2⟩
   ·refine⟨b1,?_⟩;rcases w2 with⟨c1,c2,c3⟩ | ⟨c1,_⟩
    ·right;omega
    ·exact .inl c1
   ·omega
 constructor
 ·intro H i hi;unfold recAt;cases h1:(opAt h i).2.1 == 1 with
  | false=>rfl
  | true =>
    cases h2:zbk h i != 0 with
    | false=>rfl
    | true =>
      cases h3:zbk h i != (opAt h i).1 with
      | false=>rfl
      | true =>
        have h2':zbk h i≠0:=by simpa using h2
        have h3':zbk h i≠(opAt h i).1:=by simpa using h3
        have:=H _ (zeD.2 ⟨i,hi,by simpa using h1,rfl,h2',h3'⟩);rw[key i hi h2' h3']at this;rw[this];rfl
 ·intro H e he;obtain⟨i,i1,i2,rfl,i4,i5⟩:=zeD.1 he;rw[key i i1 i4 i5];have:=H i i1;unfold recAt at this;rw[show((opAt h i).2.1 == 1)=true by simp[i2],show(zbk h i != 0)=true by simp[i4],show(zbk h i != (opAt h i).1)=true by simp[i5]]at this;simpa only[Bool.true_and,Bool.not_eq_true']using this
theorem zfV{h:List Op3}(hc:zgK h)(hop:∀o∈h,isOpB o=true){i j:Nat}(hi:i<h.length)(hj:j<h.length):zgo h (zdg h h.length) ((i:Int),(j:Int))=(zbl h (opAt h i).1 j == 0):=by have ti:=zbu (hop _ (zal hi));unfold zgo;simp only[Int.toNat_natCast];rw[zjW hc hop ti.1 (.inl rfl) (Nat.le_of_lt hj),zjW hc hop ti.1 (.inr rfl) (Nat.le_of_lt hj)];rcases endBy_kind hop (opAt h i).1 (Nat.le_of_lt hj)with e | e | e <;> rw[e] <;> rfl
theorem zor{o:Op3}(h:isOpB o=true)(h1:1<=o.2.2):o.2.1=1\/o.2.1=2:=by
 simp only[isOpB,Bool.and_eq_true,Bool.not_eq_true',Bool.or_eq_false_iff,decide_eq_false_iff_not]at h;obtain⟨⟨⟨_,h3⟩,h4⟩,h5⟩:=h;by_cases he:zaM o.2.1=true
 ·rw[if_pos he]at h5;have:o.2.2=0:=by simpa using h5
  omega
 ·simp only[zaM,Bool.or_eq_true,beq_iff_eq,not_or]at he;omega
theorem zvm{h:List Op3}(hc:zgK h)(hop:∀o∈h,isOpB o=true):(!(pairsL h).any (ziU h (zdg h h.length)))=zw1 h:=by
 rw[Bool.eq_iff_iff,zkw];unfold zw1;rw[zpP];constructor
 ·intro H i hi;unfold strAt;cases h1:decide ((opAt h i).2.1<=2)with
  | false=>rfl
  | true =>
    cases h2:zfd h i 2 with
    | false=>rfl
    | true =>obtain⟨m,m1,m2,m3,m4,m5⟩:=zdf.1 h2;have:=H _ (zbv.2 ⟨m,i,m1,hi,by simp[zgf,m2,m3,m4],rfl⟩);unfold ziU at this;rw[zfV hc hop (by omega) hi,m5]at this;simp[m2]at this
 ·intro H e he;obtain⟨m,i,m1,hi,ho,rfl⟩:=zbv.1 he;unfold ziU;rw[zfV hc hop (by omega) hi];simp only[zgf,Bool.and_eq_true,bne_iff_ne,beq_iff_eq,Bool.or_eq_true]at ho;obtain⟨o1,o2,o3⟩:=ho;simp only[Int.toNat_natCast];cases h2:(opAt h m).2.1 == 2 with
  | false=>rfl
  | true =>
    have h2':(opAt h m).2.1=2:=by simpa using h2
    have hit:=zcJ (hop _ (zal (show m<h.length by omega))) (.inr h2');have hk:=zor (hop _ (zal hi)) (by omega);have h3:=H i hi;unfold strAt at h3;rw[show decide ((opAt h i).2.1<=2)=true from decide_eq_true (by omega)]at h3;cases h4:zbl h (opAt h m).1 i == 0 with
    | false=>rfl
    | true=>rw[zdf.2 ⟨m,m1,h2',o2,o1,by simpa using h4⟩]at h3;cases h3
theorem zun{h:List Op3}(hc:zgK h)(hop:∀o∈h,isOpB o=true):(!(pairsL h).any (zgo h (zdg h h.length)))=zyd h:=by
 rw[Bool.eq_iff_iff,zkw];unfold zyd;rw[zpP];constructor
 ·intro H i hi;unfold rigAt;cases h1:decide ((opAt h i).2.1<=2)with
  | false=>rfl
  | true =>
    have hno:∀wh,(wh=2\/(opAt h i).2.1=2)->zfd h i wh=false:=fun wh hwh=>by
     cases h2:zfd h i wh with
     | false=>rfl
     | true =>
       obtain⟨m,m1,m2,m3,m4,m5⟩:=zdf.1 h2
       have hodd:zgf (opAt h m) (opAt h i)=true:=by
        rcases hwh with e | e
        ·simp[zgf,m2,m3,m4,e]
        ·simp[zgf,m3,m4,e]
       have:=H _ (zbv.2 ⟨m,i,m1,hi,hodd,rfl⟩);rw[zfV hc hop (by omega) hi,m5]at this;simp at this
    rw[hno 2 (.inl rfl)];cases h2:(opAt h i).2.1 == 2 with
    | false=>rfl
    | true=>rw[hno 1 (.inr (by simpa using h2))];rfl
 ·intro H e he;obtain⟨m,i,m1,hi,ho,rfl⟩:=zbv.1 he;rw[zfV hc hop (by omega) hi];simp only[zgf,Bool.and_eq_true,bne_iff_ne,beq_iff_eq,Bool.or_eq_true]at ho;obtain⟨o1,o2,o3⟩:=ho;have hm:m<h.length:=by omega
  have hit:1<=(opAt h i).2.2:=by
   rcases o3 with e | e
   ·have:=zcJ (hop _ (zal hm)) (.inr e);omega
   ·exact(zcJ (hop _ (zal hi)) (.inr e)).1
  have hk:=zor (hop _ (zal hi)) hit;have hkm:=zor (hop _ (zal hm)) (by omega);have h3:=H i hi;unfold rigAt at h3;rw[show decide ((opAt h i).2.1<=2)=true from decide_eq_true (by omega)]at h3;cases h4:zbl h (opAt h m).1 i == 0 with
  | false=>rfl
  | true =>
    have hop4:∀wh,(opAt h m).2.1=wh->zfd h i wh=true:=fun wh e=>zdf.2 ⟨m,m1,e,o2,o1,by simpa using h4⟩;rcases hkm with e | e
    ·have h5:(opAt h i).2.1=2:=by
      rcases o3 with e3 | e3
      ·omega
      ·exact e3
     rw[hop4 1 e,h5]at h3;simp at h3
    ·rw[hop4 2 e]at h3;simp at h3
end Go.Proofs.YthlhgiihngcobaaGreatDoor
namespace Go.Proofs.YthlhgiihngcobaaGreatDoor
open Go.RowKit
def zm4(p:Int × Int)(j:Nat):Value:=match j with | 0=>.int .i64 p.1 | _=>.int .i64 p.2
def cells14(f:Nat->Int × Int):Array Value:=((List.range 14).map fun k=>zm4 (f (k / 2)) (k % 2)).toArray
theorem zbh(f:Nat->Int × Int):(cells14 f).size=14:=by simp[cells14]
theorem zeL(f:Nat->Int × Int)(k:Nat)(h:k<14):(cells14 f)[k]? = some (zm4 (f (k / 2)) (k % 2)):=by simp[cells14,h]
theorem zuI(n:Int × Int)(j:Nat):(zm4 n j).oneCell'=true:=by unfold zm4;split <;> rfl
theorem zh2(f:Nat->Int × Int):(cells14 f).all (·.oneCell')=true:=by rw[Array.all_eq_true_iff_forall_mem];intro v hv;simp only[cells14,List.mem_toArray,List.mem_map]at hv;obtain⟨k,_,rfl⟩:=hv;exact zuI _ _
def zaw(w:World)(b:Nat)(f:Nat->Int × Int):Prop:=w.heap[b]? = some (.cells (cells14 f) 121 (0,0))
theorem zaw.lt{w:World}{b:Nat}{f:Nat->Int × Int}(h:zaw w b f):b<w.heap.size:=by have h':w.heap[b]? = some _:=h;exact(Array.getElem?_eq_some_iff.1 h').1
theorem zaw.cells{w:World}{b:Nat}{f:Nat->Int × Int}(h:zaw w b f){x:Nat}(hx:x<7){a p:Int}(he:f x=(a,p)):w.cell? ⟨b,x*2,none⟩=some (.int .i64 a)/\w.cell? ⟨b,x*2+1,none⟩=some (.int .i64 p):=by
 constructor
 ·rw[cell_of_row w b _ _ _ _ h,zeL f _ (by omega),show(x*2) / 2=x by omega,show(x*2) % 2=0 by omega,he];rfl
 ·rw[cell_of_row w b _ _ _ _ h,zeL f _ (by omega),show(x*2+1) / 2=x by omega,show(x*2+1) % 2=1 by omega,he];rfl
theorem zaw.thaw{w:World}{b:Nat}{f:Nat->Int × Int}(h:zaw w b f)(k:Nat):w.frozen? ⟨b,k,none⟩=false:=by have h':w.heap[b]? = some _:=h;simp[World.frozen?,h']
theorem zaw.same{w w':World}{b:Nat}{f:Nat->Int × Int}(h:zaw w b f)(hb:w'.heap[b]? = w.heap[b]?):zaw w' b f:=hb.trans h
theorem zaw.below{w w1:World}{b B:Nat}{f:Nat->Int × Int}(h:zaw w b f)(hb:Below B w w1)(hB:b<B):zaw w1 b f:=(hb.block b hB).trans h
theorem zaw.alloc{w:World}{b:Nat}{f:Nat->Int × Int}(h:zaw w b f)(o:Obj):zaw (w.alloc o) b f:=(Below.heap_alloc w o b h.lt).trans h
theorem zne(f:Nat->Int × Int)(x:Nat)(n:Int × Int):((cells14 f |>.setIfInBounds (x*2) (zm4 n 0)).setIfInBounds (x*2+1) (zm4 n 1))=cells14 (zyN f x n):=by
 refine Array.ext_getElem? fun j=>?_;by_cases hj:j<14
 ·rw[zeL _ j hj];simp only[Array.getElem?_setIfInBounds,Array.size_setIfInBounds,zbh];rw[zeL _ j hj];unfold zyN;by_cases e:j / 2=x
  ·rw[if_pos e];rcases(show j=x*2\/j=x*2+1 by omega)with h | h
   ·rw[if_neg (by omega),if_pos h.symm,if_pos (by omega),show j % 2=0 by omega]
   ·rw[if_pos h.symm,if_pos (by omega),show j % 2=1 by omega]
  ·rw[if_neg e,if_neg (by omega),if_neg (by omega)]
 ·rw[Array.getElem?_eq_none (by simp[zbh];omega),Array.getElem?_eq_none (by simp[zbh];omega)]
theorem zaw.set{w:World}{b:Nat}{f:Nat->Int × Int}(h:zaw w b f)(x:Nat)(a p:Int):zaw ((w.setCell ⟨b,x*2,none⟩ (.int .i64 a)).setCell ⟨b,x*2+1,none⟩ (.int .i64 p)) b (zyN f x (a,p)):=by have h':w.heap[b]? = some (.cells (cells14 f) 121 (0,0)):=h;have h2:=zne f x (a,p);simp only[zm4]at h2;unfold zaw World.setCell;simp[Array.getElem?_modify,h',h2]
theorem zdG(w:World)(f:Nat->Int × Int):zaw (w.alloc (.cells (cells14 f) 121)) w.heap.size f:=by unfold zaw World.alloc;simp
theorem zjv(w:World)(c:Array Value)(h:cells14 (fun _=>(0,0))=c):zaw (w.alloc (.cells c 121)) w.heap.size (fun _=>(0,0)):=h ▸zdG w _
theorem ztD:(Tryz.prog.info? 121).map (·.size)=some 14:=by kernel_rfl
theorem zbn(f:Nat->Int × Int):(Tryz.prog.info? 121).map (·.size)=some (cells14 f).size:=by rw[zbh];exact ztD
theorem zdo(f:Nat->Int × Int)(t i:Int)(w:World)(h0:0<=t)(h7:t<7):Calls Tryz.prog 66 #[.agg (cells14 f),.int .i64 t,.int .i64 i] w fun e w'=>e=.returned (.bool (byE f t i 3))/\Below w.heap.size w w':=by
 obtain⟨⟨a,p⟩,hf⟩:∃n,f t.toNat=n:=⟨_,rfl⟩;have HE:Hid (byE f t i 3=(a == 3 && decide (p<i))):=by show byE f t i 3=_;unfold byE;rw[hf]
 have HF:Hid (f t.toNat=(a,p)):=hf;clear hf;go_enter Tryz.func66,Tryz.ntmps66
 go_upto_region 1 with(fail)
 obtain⟨W,hW⟩:∃W,W=w.alloc (.cells (cells14 f) 121):=⟨_,rfl⟩;rw[<-hW];have hE:zaw W w.heap.size f:=by rw[hW];exact zdG w f
 have HB:Hid (Below w.heap.size w W):=by show Below _ _ _;rw[hW];exact(Below.refl _ w).alloc (Nat.le_refl _) _
 obtain⟨d0,d1⟩:=hE.cells (x:=t.toNat) (by omega) HF.out;clear hE hW;by_cases ha:a=3
 ·subst ha;by_cases hp:p<i
  ·go_wp2_with fail;go_ret;exact⟨by rw[HE.out];simp[hp],HB.out⟩
  ·go_wp2_with fail;go_ret;exact⟨by rw[HE.out];simp[hp],HB.out⟩
 ·have ha':(a == 3)=false:=by simpa using ha
  go_wp2_with fail;go_ret;exact⟨by rw[HE.out,ha'];rfl,HB.out⟩
theorem zid(f:Nat->Int × Int)(t i:Int)(w:World)(h0:0<=t)(h7:t<7):Calls Tryz.prog 131 #[.agg (cells14 f),.int .i64 t,.int .i64 i] w fun e w'=>e=.returned (.bool (byE f t i 4))/\Below w.heap.size w w':=by
 obtain⟨⟨a,p⟩,hf⟩:∃n,f t.toNat=n:=⟨_,rfl⟩;have HE:Hid (byE f t i 4=(a == 4 && decide (p<i))):=by show byE f t i 4=_;unfold byE;rw[hf]
 have HF:Hid (f t.toNat=(a,p)):=hf;clear hf;go_enter Tryz.func131,Tryz.ntmps131
 go_upto_region 1 with(fail)
 obtain⟨W,hW⟩:∃W,W=w.alloc (.cells (cells14 f) 121):=⟨_,rfl⟩;rw[<-hW];have hE:zaw W w.heap.size f:=by rw[hW];exact zdG w f
 have HB:Hid (Below w.heap.size w W):=by show Below _ _ _;rw[hW];exact(Below.refl _ w).alloc (Nat.le_refl _) _
 obtain⟨d0,d1⟩:=hE.cells (x:=t.toNat) (by omega) HF.out;clear hE hW;by_cases ha:a=4
 ·subst ha;by_cases hp:p<i
  ·go_wp2_with fail;go_ret;exact⟨by rw[HE.out];simp[hp],HB.out⟩
  ·go_wp2_with fail;go_ret;exact⟨by rw[HE.out];simp[hp],HB.out⟩
 ·have ha':(a == 4)=false:=by simpa using ha
  go_wp2_with fail;go_ret;exact⟨by rw[HE.out,ha'];rfl,HB.out⟩
end Go.Proofs.YthlhgiihngcobaaGreatDoor
namespace Go.Proofs.YthlhgiihngcobaaGreatDoor
open Go.RowKit
theorem wpList_load_row1{P:Program}{ops:Array Oper}{rest:List Oper}{o:Oper}{a:Act}{w:World}{Q:Exit->Act->World->Prop}(hw:Region.wanted o (yielded ops a.tmps)=true)(ty:TypeId)(x:Operand)(ho:o.op=.load ty x)
  (g:Nat) (hx:a.eval x=.pointer (some ⟨g,0,none⟩)) (t:TypeId) (cs:Array Value) (fr:Nat × Nat) (d:TypeDesc) (hg:w.heap[g]? = some (.cells cs t fr))
  (hu:P.underlying ty=some d) (hd:(match d with | .struct _ | .array _ _=>true | _=>false)=true) (hi:(P.info? ty).map (·.size)=some cs.size)
  (h:wpList P ops Q rest (a.put o.dst (.agg cs)) w):wpList P ops Q (o::rest) a w :=
 Go.BigFrame.wpList_want hw fun _ hK=>wp_load_row ty x ho g hx t cs fr d hg hu hd hi (hK _ _ h)
theorem ztH(f:Nat->Int × Int)(t i:Int)(w:World)(h0:0<=t)(h7:t<7):Calls Tryz.prog 69 #[.agg (cells14 f),.int .i64 t,.int .i64 i] w fun e w'=>e=.returned (.bool (byE f t i 3 || byE f t i 4))/\Below w.heap.size w w':=by
 go_enter Tryz.func69,Tryz.ntmps69
 go_upto_region 1 with(fail)
 obtain⟨W,hW⟩:∃W,W=w.alloc (.cells (cells14 f) 121):=⟨_,rfl⟩;rw[<-hW];have HE:Hid (zaw W w.heap.size f):=by show zaw W _ f;rw[hW];exact zdG w f
 have HB:Hid (Below w.heap.size w W):=by show Below _ _ _;rw[hW];exact(Below.refl _ w).alloc (Nat.le_refl _) _
 clear hW;go_wp2_with (refine wpList_load_row rfl 121 (.tmp 3) rfl w.heap.size rfl 121 (cells14 f) (0,0) _ HE.out Tryz.underlying121 rfl (zbn _) ?_);refine(zdo f t i _ h0 h7).mono ?_;rintro e w1 ⟨rfl,hb1⟩;have HE1:Hid (zaw w1 w.heap.size f):=HE.out.below hb1 HE.out.lt;have HB1:Hid (Below w.heap.size w w1):=HB.out.trans (hb1.mono HB.out.size);clear hb1;cases hq:byE f t i 3 with
 | true =>have HQ:Hid (byE f t i 3=true):=hq;clear hq;go_wp2_with fail;go_ret;exact⟨by rw[HQ.out];rfl,HB1.out⟩
 | false =>have HQ:Hid (byE f t i 3=false):=hq;clear hq;go_wp2_with (refine wpList_load_row1 rfl 121 (.tmp 3) rfl w.heap.size rfl 121 (cells14 f) (0,0) _ HE1.out Tryz.underlying121 rfl (zbn _) ?_);refine(zid f t i _ h0 h7).mono ?_;rintro e w2 ⟨rfl,hb2⟩;have HB2:Hid (Below w.heap.size w w2):=HB1.out.trans (hb2.mono HB1.out.size);clear hb2;go_wp2_with fail;go_ret;exact⟨by rw[HQ.out];rfl,HB2.out⟩
theorem zrM(l:List Op3)(v:Value)(w:World)(hI:zai w v l)(hl:l.length<=40)(hop:∀o∈l,isOpB o=true):Calls Tryz.prog 61 #[v] w fun e w'=>e=.returned (.agg (cells14 (zdg l l.length)))/\Below w.heap.size w w':=by
 obtain⟨ad,b,off,cap,rfl,ha,-,hbB,hops⟩:=hI;have HO:Hid (∀W,Below w.heap.size w W->∀k,k<l.length->ad=some ⟨b,off,none⟩/\W.cell? ⟨b,off+k*3,none⟩=some (.int .i64 (opAt l k).1)/\W.cell? ⟨b,off+k*3+1,none⟩=some (.int .i64 (opAt l k).2.1)/\W.cell? ⟨b,off+k*3+2,none⟩=some (.int .i64 (opAt l k).2.2)):=fun W hW k hk=>⟨ha (by omega),(hops.below hW hbB) k hk⟩;have HOP:Hid (∀o∈l,isOpB o=true):=hop;clear ha hbB hops hop;go_enter Tryz.func61,Tryz.ntmps61;go_wp2
 go_loopw [8] (fun v8 wr=>∃k:Nat,k<=l.length/\v8=.int .i64 k/\Below w.heap.size w wr/\zaw wr w.heap.size (fun _=>(0,0))/\zaw wr (w.heap.size+1) (zdg l k)) (fun v8 _=>l.length-(intOf v8).toNat)
 case atStart =>refine⟨0,Nat.zero_le _,rfl,((Below.refl _ w).alloc (Nat.le_refl _) _).alloc (by simp) _,(zjv w _ rfl).alloc _,?_⟩;have h1:=zjv (w.alloc (.cells (cells14 fun _=>(0,0)) 121)) _ rfl;rw[show(w.alloc (.cells (cells14 fun _=>(0,0)) 121)).heap.size=w.heap.size+1 by simp]at h1;exact h1
 case round =>
  obtain⟨k,hk,rfl,hbel,hz,hs⟩:=hrel;have hB1:=hs.lt;have HZ:Hid (zaw wr w.heap.size (fun _=>(0,0))):=hz;have HS:Hid (zaw wr (w.heap.size+1) (zdg l k)):=hs;have HBW:Hid (Below w.heap.size w wr):=hbel;clear hz hs;by_cases hlt:k<l.length
  ·have hlt':(k:Int)<(l.length:Int):=by omega
   obtain⟨hadr,c0,c1,c2⟩:=HO.out wr hbel k hlt;subst hadr;obtain⟨⟨t,a,x⟩,ho⟩:∃o:Op3,opAt l k=o:=⟨_,rfl⟩;have hisop:=HOP.out _ (zal hlt);rw[ho]at c0 c1 c2 hisop;obtain⟨ht1,ht6⟩:=zbu hisop;have HOA:Hid (opAt l k=(t,a,x)):=ho;simp only at c0 c1 c2 ht1 ht6;clear ho hisop hbel
   go_upto_region 5 with(fail)
   obtain⟨W,hW⟩:∃W,W=wr.alloc (.cells #[.int .i64 t,.int .i64 a,.int .i64 x] 103):=⟨_,rfl⟩;rw[<-hW];obtain⟨P,hP⟩:∃P,P=wr.heap.size:=⟨_,rfl⟩;rw[<-hP];have p0:W.cell? ⟨P,0,none⟩=some (.int .i64 t):=by rw[hW,hP];simp
   have p1:W.cell? ⟨P,1,none⟩=some (.int .i64 a):=by rw[hW,hP];simp
   have hbw:Below wr.heap.size wr W:=by rw[hW];exact(Below.refl _ wr).alloc (Nat.le_refl _) _
   have HZW:Hid (zaw W w.heap.size (fun _=>(0,0))):=HZ.out.below hbw (by omega);have HSW:Hid (zaw W (w.heap.size+1) (zdg l k)):=HS.out.below hbw hB1;have HBW2:Hid (Below w.heap.size w W):=HBW.out.trans (hbw.mono HBW.out.size);have hPB:w.heap.size+1<P:=by omega
   clear hW hP hbw HZ HS c0 c1 c2 HBW;by_cases he:a=3\/a=4
   ·have HF:Hid (zdg l (k+1)=zyN (zdg l k) t.toNat (a,(k:Int))):=by
     show zdg l (k+1)=_;rw[zkj (by rw[HOA.out];rcases he with e | e <;> (simp only[e];rfl)),HOA.out]
    obtain⟨⟨q1,q2⟩,hq⟩:∃n,zdg l k t.toNat=n:=⟨_,rfl⟩;obtain⟨d0,d1⟩:=HSW.out.cells (x:=t.toNat) (by omega) hq;have y0:=HSW.out.thaw (t.toNat*2);have y1:=HSW.out.thaw (t.toNat*2+1);have ht0:0<=t:=by omega
    have ht7:t<7:=by omega
    have HLN:Hid (zaw ((W.setCell ⟨w.heap.size+1,t.toNat*2,none⟩ (.int .i64 a)).setCell ⟨w.heap.size+1,t.toNat*2+1,none⟩ (.int .i64 k)) (w.heap.size+1) (zdg l (k+1))):=by rw[HF.out];exact HSW.out.set t.toNat a k
    have HBN:Hid (Below (w.heap.size+1) W ((W.setCell ⟨w.heap.size+1,t.toNat*2,none⟩ (.int .i64 a)).setCell ⟨w.heap.size+1,t.toNat*2+1,none⟩ (.int .i64 k))):=by refine((Below.refl (w.heap.size+1) W).setCell ?_ _).setCell ?_ _ <;> exact Nat.le_refl _
    clear hq;rcases he with rfl | rfl
    ·go_wp2_with fail;go_roundw
     case rel=>exact⟨k+1,by omega,by go_num,HBW2.out.trans (HBN.out.mono (by omega)),HZW.out.below HBN.out (by omega),HLN.out⟩
     case measure=>simp[intOf];omega
    ·go_wp2_with fail;go_roundw
     case rel=>exact⟨k+1,by omega,by go_num,HBW2.out.trans (HBN.out.mono (by omega)),HZW.out.below HBN.out (by omega),HLN.out⟩
     case measure=>simp[intOf];omega
   ·have he3:(a == 3)=false:=beq_eq_false_iff_ne.2 fun e=>he (.inl e);have he4:(a == 4)=false:=beq_eq_false_iff_ne.2 fun e=>he (.inr e);have HF:Hid (zdg l (k+1)=zdg l k):=znD (by rw[HOA.out];show(a == 3 || a == 4)=false;rw[he3,he4];rfl);clear he;go_wp2_with fail;go_roundw
    case rel=>exact⟨k+1,by omega,by go_num,HBW2.out,HZW.out,by rw[HF.out];exact HSW.out⟩
    case measure=>simp[intOf];omega
  ·have hlt':¬(k:Int)<(l.length:Int):=by omega
   obtain rfl:k=l.length:=by omega
   clear hbel;go_wp2_with (first | refine wpList_load_row rfl 121 (.tmp 3) rfl (w.heap.size+1) rfl 121 (cells14 (zdg l l.length)) (0,0) _ HS.out Tryz.underlying121 rfl (zbn _) ?_ | refine wpList_store_row rfl 121 (.tmp 2) (.tmp 29) rfl w.heap.size (cells14 (zdg l l.length)) rfl rfl 121 (cells14 fun _=>(0,0)) HZ.out (zbn _) (by rw[zbh,zbh]) (zh2 _) ?_);exact bodyPost_ret (v:=.agg (cells14 (zdg l l.length))) (results_cell_row Tryz.results61 _ _ w.heap.size 121 (cells14 (zdg l l.length)) (0,0) _ rfl (setRow_heap _ _ _ _ _ _ HZ.out) Tryz.underlying121 rfl (zbn _)) rfl ⟨rfl,below_setRow HBW.out (Nat.le_refl _) _⟩
end Go.Proofs.YthlhgiihngcobaaGreatDoor
