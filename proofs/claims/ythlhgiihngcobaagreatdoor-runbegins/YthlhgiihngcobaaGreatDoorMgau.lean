/-
  PROVED HERE: package run's faceWords, illWords, done, ops; serial.doneDeals gives what is done, and of which deals, in memory of its own; slices.Clone at a list of numbers gives that list, in new memory; slices.Contains, Equal, Sort and Clone at lists of numbers, in the words of these texts.
  Conditions: none but those that each theorem's own premises say.
-/
import Derived.Test.YthlhgiihngcobaaGreatDoorMgat
import Derived.Test.YthlhgiihngcobaaGreatDoorMgal
import Derived.Test.YthlhgiihngcobaaGreatDoorMgah
import Derived.Deep.Onto
import Derived.Deep.QuietTactic
import Derived.BigQuiet
import Derived.WalkSmall
import Derived.OwnWalk
import Derived.Laws.AppendOwnNone
import Derived.Lib.SliceRun
import Derived.Sort.OwnSortedInts
set_option maxHeartbeats 32000000
set_option maxRecDepth 100000
namespace Go.Proofs.YthlhgiihngcobaaGreatDoor
open Go.RowKit
def zlA(ws:List (List UInt8 × Bool)):List UInt8:=zg0 ((ws.filter fun x=>x.2).map fun x=>x.1)
theorem ziX{ws:List (List UInt8 × Bool)}(h:∀x∈ws,x.1≠[]):zhW ws=zlA ws:=by unfold zhW zlA;exact zgv fun w hw=>by obtain⟨x,hx,rfl⟩:=List.mem_map.1 hw;exact h x (List.mem_filter.1 hx).1
theorem zyD(hJ:zl1)(a b c d:List UInt8 × Bool)(P cap:Nat)(w:World)(hP:P<w.heap.size)(hw:(a.1.length<=20/\b.1.length<=20)/\c.1.length<=20/\d.1.length<=20)
  (h0:w.cell? ⟨P,0,none⟩=some (za2 a.1)) (h1:w.cell? ⟨P,1,none⟩=some (.bool a.2)) (h2:w.cell? ⟨P,2,none⟩=some (za2 b.1)) (h3:w.cell? ⟨P,3,none⟩=some (.bool b.2))
  (h4:w.cell? ⟨P,4,none⟩=some (za2 c.1)) (h5:w.cell? ⟨P,5,none⟩=some (.bool c.2)) (h6:w.cell? ⟨P,6,none⟩=some (za2 d.1)) (h7:w.cell? ⟨P,7,none⟩=some (.bool d.2)) :
  Calls Tryz.prog 59 #[.slice (some ⟨P,0,none⟩) 4 cap] w fun e w'=>e=.returned (za2 (zlA [a,b,c,d]))/\Below w.heap.size w w' :=
 zxN hJ [a,b,c,d] P cap w (by simp) (fun x hx=>by
  simp only[List.mem_cons,List.not_mem_nil,or_false]at hx;rcases hx with rfl | rfl | rfl | rfl
  ·exact hw.1.1
  ·exact hw.1.2
  ·exact hw.2.1
  ·exact hw.2.2) hP fun k hk=>by
  have hk':k<4:=hk;rcases(show k=0\/k=1\/k=2\/k=3 by omega)with rfl | rfl | rfl | rfl
  ·exact⟨h0,h1⟩
  ·exact⟨h2,h3⟩
  ·exact⟨h4,h5⟩
  ·exact⟨h6,h7⟩
def zAc(f:Bool × Bool × Bool × Bool):List (List UInt8 × Bool):=[(zyz,f.1),(zyG,f.2.1),(zyE,f.2.2.1),(zyQ,f.2.2.2)]
def zBM(f:Bool × Bool × Bool × Bool):List (List UInt8 × Bool):=[(dwW,f.1),(drW,f.2.1),(unW,f.2.2.1),(loW,f.2.2.2)]
theorem zmb(hJ:zl1)(f:Bool × Bool × Bool × Bool)(x:Value)(w:World):Calls Tryz.prog 24 #[zqv f,x] w fun e w'=>e=.returned (.tuple #[za2 (zlA (zAc f)),x])/\Below w.heap.size w w':=by
 obtain⟨a,b,c,d⟩:=f
 have hT:=zyD hJ (zyz,a) (zyG,b) (zyE,c) (zyQ,d) (w.heap.size+1) 4 ((w.alloc (.cells #[.bool a,.bool b,.bool c,.bool d] 62)).alloc (.cells #[za2 zyz,.bool a,za2 zyG,.bool b,za2 zyE,.bool c,za2 zyQ,.bool d] 117)) (by simp) (by simp only;decide)
  (by rw[World.cell?_alloc_at _ _ _ _ (by simp)];rfl) (by rw[World.cell?_alloc_at _ _ _ _ (by simp)];rfl) (by rw[World.cell?_alloc_at _ _ _ _ (by simp)];rfl) (by rw[World.cell?_alloc_at _ _ _ _ (by simp)];rfl)
  (by rw[World.cell?_alloc_at _ _ _ _ (by simp)];rfl) (by rw[World.cell?_alloc_at _ _ _ _ (by simp)];rfl) (by rw[World.cell?_alloc_at _ _ _ _ (by simp)];rfl) (by rw[World.cell?_alloc_at _ _ _ _ (by simp)];rfl)
 have HT:=zau hT;have HB:Hid (Below w.heap.size w ((w.alloc (.cells #[.bool a,.bool b,.bool c,.bool d] 62)).alloc (.cells #[za2 zyz,.bool a,za2 zyG,.bool b,za2 zyE,.bool c,za2 zyQ,.bool d] 117))):=((Below.refl _ w).alloc (Nat.le_refl _) _).alloc (by simp) _;clear hT hJ;show Calls _ _ #[.agg #[.bool a,.bool b,.bool c,.bool d],x] w _;go_enter Tryz.func24,Tryz.ntmps24;go_wp2_with (go_at_call 59;refine HT.out.mono ?_;rintro e w1 ⟨rfl,hb1⟩);go_ret2;exact⟨rfl,HB.out.trans (hb1.mono (by simp;omega))⟩
theorem znc(hJ:zl1)(f:Bool × Bool × Bool × Bool)(x:Value)(w:World):Calls Tryz.prog 26 #[zqv f,x] w fun e w'=>e=.returned (.tuple #[za2 (zlA (zBM f)),x])/\Below w.heap.size w w':=by
 obtain⟨a,b,c,d⟩:=f
 have hT:=zyD hJ (dwW,a) (drW,b) (unW,c) (loW,d) (w.heap.size+1) 4 ((w.alloc (.cells #[.bool a,.bool b,.bool c,.bool d] 67)).alloc (.cells #[za2 dwW,.bool a,za2 drW,.bool b,za2 unW,.bool c,za2 loW,.bool d] 117)) (by simp) (by simp only;decide)
  (by rw[World.cell?_alloc_at _ _ _ _ (by simp)];rfl) (by rw[World.cell?_alloc_at _ _ _ _ (by simp)];rfl) (by rw[World.cell?_alloc_at _ _ _ _ (by simp)];rfl) (by rw[World.cell?_alloc_at _ _ _ _ (by simp)];rfl)
  (by rw[World.cell?_alloc_at _ _ _ _ (by simp)];rfl) (by rw[World.cell?_alloc_at _ _ _ _ (by simp)];rfl) (by rw[World.cell?_alloc_at _ _ _ _ (by simp)];rfl) (by rw[World.cell?_alloc_at _ _ _ _ (by simp)];rfl)
 have HT:=zau hT;have HB:Hid (Below w.heap.size w ((w.alloc (.cells #[.bool a,.bool b,.bool c,.bool d] 67)).alloc (.cells #[za2 dwW,.bool a,za2 drW,.bool b,za2 unW,.bool c,za2 loW,.bool d] 117))):=((Below.refl _ w).alloc (Nat.le_refl _) _).alloc (by simp) _;clear hT hJ;show Calls _ _ #[.agg #[.bool a,.bool b,.bool c,.bool d],x] w _;go_enter Tryz.func26,Tryz.ntmps26;go_wp2_with (go_at_call 59;refine HT.out.mono ?_;rintro e w1 ⟨rfl,hb1⟩);go_ret2;exact⟨rfl,HB.out.trans (hb1.mono (by simp;omega))⟩
theorem zwh(hJ:zl1)(hI:zAx)(l:List Int)(a1 a2 a3 x:Value)(w:World)(h:zaf w a1 l)(hl:l.length<=1000)(hx:∀d∈l,0<=d/\d<10000000)(hp:zen w):Calls Tryz.prog 32 #[.agg #[a1,a2,a3],x] w fun e w'=>e=.returned (.tuple #[za2 (zg0 (l.map Lib.itoa)),x])/\Below w.heap.size w w':=by have hb:Below w.heap.size w (w.alloc (.cells #[a1,a2,a3] 77)):=(Below.refl _ w).alloc (Nat.le_refl _) _;have HN:=zau (zgp hJ hI l a1 x (w.alloc (.cells #[a1,a2,a3] 77)) (h.below hb (Nat.le_refl _)) hl hx (zbY hp hb));have HB:=zau hb;clear hJ hI h hx hp hb;go_enter Tryz.func32,Tryz.ntmps32;go_wp2_with (go_at_call 21;refine HN.out.mono ?_;rintro e w1 ⟨rfl,hb1⟩);go_ret2;exact⟨rfl,HB.out.trans (hb1.mono (by simp))⟩
theorem zvx(l:List Op3)(v:Value)(w:World)(h:zai w v l):Calls Tryz.prog 80 #[v] w fun e w'=>e=.returned (.tuple #[za2 (if(chk l).2=0 then zkL l else[]),zeH (chk l).2])/\Below w.heap.size w w':=by
 by_cases hc:(chk l).2=0
 ·refine(zwN l v w h hc).mono ?_;rintro e w' ⟨rfl,hb⟩;exact⟨by rw[hc];rfl,hb⟩
 ·refine(zs7 l v w h hc).mono ?_;rintro e w' ⟨rfl,hb⟩;exact⟨by rw[if_neg hc,zir hc],hb⟩
theorem zBl(l:List Op3)(v v2:Value)(w:World)(h:zai w v l):Calls Tryz.prog 29 #[v,v2,.nilIface] w fun e w'=>e=.returned (.tuple #[za2 (ziS (if(chk l).2=0 then zkL l else[])),zeH (chk l).2])/\Below w.heap.size w w':=by
 have HP:=zau (zvx l v w h);obtain⟨t,ht⟩:∃t,(if(chk l).2=0 then zkL l else[])=t:=⟨_,rfl⟩;obtain⟨y,hy⟩:∃y,zeH (chk l).2=y:=⟨_,rfl⟩;rw[ht,hy]at HP ⊢;clear h ht hy;cases t with
 | nil =>go_enter Tryz.func29,Tryz.ntmps29;go_wp2_with (go_at_call 80;refine HP.out.mono ?_;rintro e w1 ⟨rfl,hb1⟩);go_ret2;exact⟨rfl,hb1⟩
 | cons a r =>have hd:ziS (a::r)=a::r:=if_neg (by simp);have hem:(a::r).isEmpty=false:=rfl;rw[hd];obtain⟨t,ht⟩:∃t,a::r=t:=⟨_,rfl⟩;rw[ht]at HP hem ⊢;clear ht hd;go_enter Tryz.func29,Tryz.ntmps29;go_wp2_with (go_at_call 80;refine HP.out.mono ?_;rintro e w1 ⟨rfl,hb1⟩);go_ret2;exact⟨rfl,hb1⟩
end Go.Proofs.YthlhgiihngcobaaGreatDoor
namespace Go.Proofs.YthlhgiihngcobaaGreatDoor
open Go.RowKit
theorem zmK(l:List Op3)(v:Value)(w:World)(h:zai w v l)(hc:(chk l).2=0):Calls Tryz.prog 44 #[v] w fun e w'=>∃u v',e=.returned (.tuple #[u,v',.nilIface])/\zai w' u (doneL l)/\w'.ownsRow w.heap.size 3 1 v' (zas (doneL l)).length ((zas (doneL l)).map (Value.int .i64))/\Below w.heap.size w w':=by go_enter Tryz.func44,Tryz.ntmps44;go_wp2_with fail;refine(done_ok l _ _ h hc).mono ?_;rintro e w1 ⟨u,rfl,hI1,hb1⟩;go_wp2_with fail;refine(deals_own (doneL l) u _ hI1 (chk_done hc)).mono ?_;rintro e w2 ⟨v',rfl,hown2,hb2⟩;go_wp2_with fail;go_ret3;exact⟨_,_,rfl,hI1.below hb2 (Nat.le_refl _),hown2.mono hb1.size,hb1.trans (hb2.mono hb1.size)⟩
end Go.Proofs.YthlhgiihngcobaaGreatDoor
namespace Go.Proofs.YthlhgiihngcobaaGreatDoor
open Go.RowKit
theorem clone_ints(l:List Int)(v:Value)(w:World)(hI:zaf w v l)(hl:l.length<=1000):Calls Tryz.prog 79 #[v] w fun e w'=>∃v',e=.returned v'/\w'.ownsRow w.heap.size 3 1 v' l.length (l.map (Value.int .i64))/\Below w.heap.size w w':=by
 obtain⟨ad,b,off,cap,rfl,ha,hn,-,hc⟩:=hI;obtain⟨i0,hi,hz0,hs0,hy0⟩:=info_parts zbK;have HI:Hid (Tryz.prog.info? 3=some i0/\i0.zero=some (.int .i64 0)/\i0.size=1/\i0.bytes=8):=⟨hi,hz0,hs0,hy0⟩;clear hi hz0 hs0 hy0;cases ad with
 | none =>obtain⟨h0,rfl⟩:=hn rfl;have e0:l=[]:=List.length_eq_zero_iff.1 h0;subst e0;clear ha hn hc;have hq:∀w,(binOp .eql 24 (.slice none 0 0) (.slice none 0 0)).run Tryz.prog w=.ok (.bool true) w:=fun w=>Lib.run_eql_slice_nil w _ _ _ _ _ _ _ Tryz.underlying24;go_enter Tryz.func79,Tryz.ntmps79;go_wp2;go_ret;exact⟨_,rfl,World.ownsRow_nil _ _ _ _,Below.refl _ _⟩
 | some a =>
   by_cases h0:l=[]
   ·subst h0;clear ha hn hc;have hq:∀w,(binOp .eql 24 (.slice (some a) 0 cap) (.slice none 0 0)).run Tryz.prog w=.ok (.bool false) w:=fun w=>Lib.run_eql_slice_nil w _ _ _ _ _ _ _ Tryz.underlying24;go_enter Tryz.func79,Tryz.ntmps79;go_wp2_with (at_builtin;refine wpList_append_own_none rfl (.tmp 5) (.tmp 6) 24 rfl w.heap.size 3 i0 1 Tryz.underlying24 HI.out.1 (.slice (some ⟨w.heap.size,0,none⟩) 0 0) 0 [] rfl (World.ownsRow_made w #[] 0 (Nat.le_refl _) (Nat.zero_le _) rfl) rfl ?_);go_ret;exact⟨_,rfl,World.ownsRow_made w #[] 0 (Nat.le_refl _) (Nat.zero_le _) rfl,(Below.refl _ w).alloc (Nat.le_refl _) _⟩
   ·have hq:∀w,(binOp .eql 24 (.slice (some a) l.length cap) (.slice none 0 0)).run Tryz.prog w=.ok (.bool false) w:=fun w=>Lib.run_eql_slice_nil w _ _ _ _ _ _ _ Tryz.underlying24;have ha':=ha (List.length_pos_iff.2 h0);injection ha' with ha';subst ha';have HS:Hid (∀j u,(l.map (Value.int .i64))[j]? = some u->w.cell? ⟨b,off+j,none⟩=some u):=fun j u hj=>by rw[List.getElem?_map]at hj;obtain⟨x,hx,rfl⟩:=Option.map_eq_some_iff.1 hj;have hj':=(List.getElem?_eq_some_iff.1 hx).1;rw[hc j hj'];simp[List.getD,hx]
    clear ha hn hc;go_enter Tryz.func79,Tryz.ntmps79;go_wp2_with (at_builtin;refine wpList_append_own _ rfl (.tmp 5) (.tmp 6) 24 rfl w.heap.size 3 i0 (.int .i64 0) 1 8 Tryz.underlying24 HI.out.1 HI.out.2.1 HI.out.2.2.1 HI.out.2.2.2 rfl (by decide) (.slice (some ⟨w.heap.size,0,none⟩) 0 0) 0 [] rfl (World.ownsRow_made w #[] 0 (Nat.le_refl _) (Nat.zero_le _) rfl) ⟨b,off,none⟩ l.length cap (l.map (Value.int .i64)) rfl (by simp) (fun j u hj=>by rw[Addr.add_lit];have h1:=HS.out j u hj;rw[World.cell?_alloc_lt _ _ _ (World.block_lt_of_cell? w _ h1)];exact h1) (fun u hu=>by obtain⟨k,_,rfl⟩:=List.mem_map.1 hu;rfl) (by unfold maxLen;omega) (by omega) (by simp) ?_;intro v1 w1 hown1 hgr1 hnil1);go_ret;exact⟨_,rfl,by simpa using hown1,((Below.refl _ w).alloc (Nat.le_refl _) _).grown hgr1 (by simp) (by intro k hk;simp[Value.ownBlock]at hk;omega)⟩
end Go.Proofs.YthlhgiihngcobaaGreatDoor
namespace Go.Proofs.YthlhgiihngcobaaGreatDoor
open Go.RowKit Go.Sort
theorem contains_ints(l:List Int)(v:Value)(x:Int)(w:World)(hI:zaf w v l)(hl:l.length<=1000):Calls Tryz.prog 48 #[v,.int .i64 x] w fun e w'=>e=.returned (.bool (inB l x))/\w'=w:=by
 obtain⟨ad,b,off,cap,rfl,ha,-,-,hc⟩:=hI;by_cases h0:l=[]
 ·subst h0;exact Any.slices_Contains_int_empty Tryz.lays107 ad cap x w
 ·obtain rfl:=ha (List.length_pos_iff.2 h0);refine(Any.slices_Contains_int Tryz.lays107 b off l.length cap l x w (Nat.le_refl _) (by omega) hc).mono ?_;rintro e w' ⟨he,hw⟩;rw[List.take_length]at he;exact⟨he,hw⟩
theorem zvO{l m:List Int}(h:l.length≠m.length):(l == m)=false:=by rw[beq_eq_false_iff_ne];intro e;exact h (by rw[e])
theorem zrV(l m:List Int)(u v:Value)(w:World)(hu:zaf w u l)(hv:zaf w v m)(hl:l.length<=1000)(hm:m.length<=1000):Calls Tryz.prog 186 #[u,v] w fun e w'=>e=.returned (.bool (l == m))/\Below w.heap.size w w':=by
 obtain⟨ad,b,off,cap,rfl,ha,-,-,hc⟩:=hu;obtain⟨ad2,b2,off2,cap2,rfl,ha2,-,-,hc2⟩:=hv;by_cases hlm:l.length=m.length
 ·by_cases h0:l=[]
  ·subst h0;refine(Any.slices_Equal_int_empty Tryz.lays111 ad ad2 cap m.length cap2 w (by omega)).mono ?_;rintro e w' ⟨he,rfl⟩;have hm0:m=[]:=List.length_eq_zero_iff.1 hlm.symm;subst hm0;exact⟨he,Below.refl _ _⟩
  ·have hp:=List.length_pos_iff.2 h0;obtain rfl:=ha hp;obtain rfl:=ha2 (by omega);refine(Any.slices_Equal_int Tryz.lays111 b off l.length cap b2 off2 m.length cap2 l m w (Nat.le_refl _) (Nat.le_refl _) (by omega) (by omega) hc hc2).mono ?_;rintro e w' ⟨he,q,rfl⟩;rw[List.take_length,List.take_length]at he;exact⟨he,below_drewN (Below.refl _ _) _⟩
 ·refine(Any.slices_Equal_int_lens Tryz.lays111 ad ad2 l.length cap m.length cap2 w hlm).mono ?_;rintro e w' ⟨he,hw⟩;exact⟨by rw[he,zvO hlm],by rw[hw];exact Below.refl _ _⟩
theorem sort_own(zs:List Int)(v:Value)(base n:Nat)(w:World)(hn:zs.length=n)(hl:zs.length<=1000)(h:w.ownsRow base 3 1 v n (zs.map (Value.int .i64))):Calls Tryz.prog 185 #[v] w fun e w'=>e=.returned (.tuple #[])/\w'.ownsRow base 3 1 v n ((sortI zs).map (Value.int .i64))/\w.grownBy w' v.ownBlock:=by
 subst hn;obtain⟨h0,⟨hv,hz⟩ | ⟨g,cap,cur,hv,hbase,hb,h1,h2,h3,h4⟩⟩:=h
 ·subst hv;refine(Any.slices_Sort_int_none Tryz.lays189 none 0 w).mono ?_;rintro e w' ⟨he,hw⟩;have e0:zs=[]:=List.length_eq_zero_iff.1 hz;subst e0;rw[hw];exact⟨he,⟨by simp[sortI],.inl ⟨rfl,rfl⟩⟩,⟨rfl,rfl,rfl,Nat.le_refl _,fun _ _ _=>rfl⟩⟩
 ·subst hv;refine(Any.slices_Sort_int Tryz.lays189 g 0 cap zs w (holds_of_blockI hb (by simpa using h4)) (Array.getElem?_eq_some_iff.1 hb).1 (by omega)).mono ?_;rintro e w' ⟨he,n,os,hw⟩;rw[hw];exact⟨he,ownsRow_sortedI (zay zs).length_eq hbase hb h1 h2 h3,grownBy_sortedI _⟩
end Go.Proofs.YthlhgiihngcobaaGreatDoor
