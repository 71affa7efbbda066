/-
  PROVED HERE: history.Parse tells ErrSyntax of a text that is none, Check's error of one whose ops are wrong, and else its; package run's joined, numbers, those put words together, a blank between, or a dash.
  Conditions: none but those that each theorem's own premises say.
-/
import Derived.Test.YthlhgiihngcobaaGreatDoorMgay
import Derived.Test.YthlhgiihngcobaaGreatDoorMgax
import Derived.Test.YthlhgiihngcobaaGreatDoorMgaf
import Derived.Deep.Strs
import Derived.Maps.AppendAt
import Derived.RangeFuncBox
set_option maxHeartbeats 32000000
set_option maxRecDepth 100000
namespace Go.Proofs.YthlhgiihngcobaaGreatDoor
open Go.RowKit Go.PlainAid
theorem zeK(l:List UInt8)(w:World)(hs:l.length<=9223372036854775807)(hp:zaL l=none):Calls Tryz.prog 41 #[.string ⟨l.toArray⟩] w fun e w'=>e=.returned (.tuple #[.slice none 0 0,.iface 80 (.int .i64 2)])/\Below w.heap.size w w':=by have HP:Hid (zaL l=none):=hp;clear hp;go_enter Tryz.func41,Tryz.ntmps41;go_wp2_with (go_at_call 107;refine(readOps_any l _ hs).mono ?_;rintro e w1 ⟨hret,hb1⟩;rw[HP.out]at hret;obtain rfl:e=.returned (.tuple #[.slice none 0 0,.bool false]):=hret);go_ret2;exact⟨rfl,hb1⟩
theorem zj9(l:List UInt8)(ds:List Op3)(w:World)(hs:l.length<=9223372036854775807)(hp:zaL l=some ds)(hc:(chk (ds.take 41)).2≠0):Calls Tryz.prog 41 #[.string ⟨l.toArray⟩] w fun e w'=>e=.returned (.tuple #[.slice none 0 0,.iface 80 (.int .i64 (chk (ds.take 41)).2)])/\Below w.heap.size w w':=by have HP:Hid (zaL l=some ds):=hp;have HC:Hid ((chk (ds.take 41)).2≠0):=hc;clear hp hc;go_enter Tryz.func41,Tryz.ntmps41;go_wp2_with (first | (go_at_call 107;refine(readOps_any l _ hs).mono ?_;rintro e w1 ⟨hret,hb1⟩;rw[HP.out]at hret;obtain⟨v,rfl,hI,-⟩:∃v,e=.returned (.tuple #[v,.bool true])/\zal w1 v (ds.take 41)/\w1.ownsRow w.heap.size 103 3 v (ds.take 41).length (flat (ds.take 41)):=hret) | (go_at_call 81;refine(check_bad (ds.take 41) v _ hI HC.out).mono ?_;rintro e w2 ⟨rfl,hb2⟩));go_ret2;exact⟨rfl,hb1.trans (hb2.mono hb1.size)⟩
theorem zlG{ds:List Op3}(hc:(chk (ds.take 41)).2=0):ds.take 41=ds:=by have:=zaN hc;rw[List.length_take]at this;exact List.take_of_length_le (by omega)
theorem zjb(l:List UInt8)(ds:List Op3)(w:World)(hs:l.length<=9223372036854775807)(hp:zaL l=some ds)(hc:(chk (ds.take 41)).2=0):Calls Tryz.prog 41 #[.string ⟨l.toArray⟩] w fun e w'=>∃v,e=.returned (.tuple #[v,.nilIface])/\(zal w' v ds/\w'.ownsRow w.heap.size 103 3 v ds.length (flat ds))/\Below w.heap.size w w':=by have ht:=zlG hc;have HP:Hid (zaL l=some ds):=hp;rw[ht]at hc;have HC:Hid ((chk ds).2=0):=hc;have HT:Hid (ds.take 41=ds):=ht;clear hp hc ht;go_enter Tryz.func41,Tryz.ntmps41;go_wp2_with (first | (go_at_call 107;refine(readOps_any l _ hs).mono ?_;rintro e w1 ⟨hret,hb1⟩;rw[HP.out]at hret;obtain⟨v,rfl,hI,hO⟩:∃v,e=.returned (.tuple #[v,.bool true])/\zal w1 v (ds.take 41)/\w1.ownsRow w.heap.size 103 3 v (ds.take 41).length (flat (ds.take 41)):=hret;rw[HT.out]at hI hO) | (go_at_call 81;refine(check_ok ds v _ hI HC.out).mono ?_;rintro e w2 ⟨rfl,hb2⟩));go_ret2;exact⟨v,rfl,⟨hI.below hb2 (Nat.le_refl _),zat hO hb2 (Nat.le_refl _)⟩,hb1.trans (hb2.mono hb1.size)⟩
end Go.Proofs.YthlhgiihngcobaaGreatDoor
namespace Go.Proofs.YthlhgiihngcobaaGreatDoor
open Go.RowKit
abbrev zay(x:List UInt8):Value:=.string ⟨x.toArray⟩
def ziV:Prop:=∀(bk o c:Nat) (xs:List (List UInt8)) (w:World),(∀(j:Nat) x,xs[j]? = some x->w.cell? ⟨bk,o+j,none⟩=some (zay x))->bk<w.heap.size->xs.length<=1000->xs.length<=c->(Lib.join xs [32]).length<=1000000 ->
 Calls Tryz.prog 109 #[.slice (some ⟨bk,o,none⟩) xs.length c,.string ⟨#[32]⟩] w fun e w'=>e=.returned (zay (Lib.join xs [32]))/\Below w.heap.size w w'
def zn5:Prop:=∀(n:Int) (w:World),0<=n->n<10000000->zde w->Calls Tryz.prog 42 #[.int .i64 n] w fun e w'=>e=.returned (zay (Lib.itoa n))/\Below w.heap.size w w'
theorem zaf{p:Prop}(h:p):Hid p:=h
theorem zkw:(Tryz.prog.info? 9).map (fun i=>(i.zero,i.size,i.bytes))=some (some (.string ⟨#[]⟩),1,16):=by kernel_rfl
theorem zfZ(hJ:ziV)(B n:Nat)(xs:List (List UInt8))(v:Value)(w:World)(hn:xs.length=n)(h:w.ownsRow B 9 1 v n (xs.map zay))(hl:n<=1000)(hj:(Lib.join xs [32]).length<=1000000):Calls Tryz.prog 43 #[v] w fun e w'=>e=.returned (zay (zeP xs))/\Below w.heap.size w w':=by
 by_cases hx:xs=[]
 ·have hn0:n=0:=by rw[<-hn,hx];rfl
  subst hn0;have hJD:zeP xs=[45]:=if_pos hx;obtain⟨ad,cap,rfl⟩:=zcb h;rw[hJD];clear h hJ hj hJD hn hx;go_enter Tryz.func43,Tryz.ntmps43;go_wp2_with fail;go_ret;exact⟨rfl,Below.refl _ _⟩
 ·have hJD:zeP xs=Lib.join xs [32]:=if_neg hx;have hpos:0<n:=by rw[<-hn];exact List.length_pos_iff.2 hx
  obtain⟨g,cap,cur,rfl,hg,hgc,hnc,-⟩:∃g cap cur,v=.slice (some ⟨g,0,none⟩) n cap/\B<=g/\w.heap[g]? = some (.cells cur 9 (0,0))/\n<=cap/\True:=by
   rcases h.2 with⟨_,h0⟩ | ⟨g,cap,cur,hv,hb,hg,hc,_⟩
   ·omega
   ·exact⟨g,cap,cur,hv,hb,hg,hc,trivial⟩
  have HC:=zaf (hJ g 0 cap xs w (fun j x hx=>by have:=h.cells (g:=g) rfl j (zay x) (by rw[List.getElem?_map,hx];rfl);rw[Addr.add_lit]at this;exact this) (zaS hgc) (by omega) (by omega) hj);rw[hn]at HC;rw[hJD];have hn0:((n:Int) == 0)=false:=by simp;omega
  clear h hgc hJ hj hJD hn hx;go_enter Tryz.func43,Tryz.ntmps43;go_wp2_with fail;refine HC.out.mono ?_;rintro e w1 ⟨rfl,hb1⟩;go_wp2_with fail;go_ret;exact⟨rfl,hb1⟩
theorem zeU(hJ:ziV)(hI:zn5)(l:List Int)(v x:Value)(w:World)(h:zak w v l)(hl:l.length<=1000)(hx:∀d∈l,0<=d/\d<10000000)(hp:zde w):Calls Tryz.prog 21 #[v,x] w fun e w'=>e=.returned (.tuple #[zay (zeP (l.map Lib.itoa)),x])/\Below w.heap.size w w':=by
 obtain⟨ad,b,off,cap,rfl,ha,-,hbB,hc⟩:=h;obtain⟨N,hN⟩:∃n,l.length=n:=⟨_,rfl⟩
 have HE:Hid (∀W,Below w.heap.size w W->∀k,k<N->ad=some ⟨b,off,none⟩/\W.cell? ⟨b,off+k,none⟩=some (.int .i64 (l.getD k 0))):=fun W hW k hk=>by
  have hb:b<w.heap.size:=by
   rcases hbB with h | h
   ·exact h
   ·rw[h]at hN;simp at hN;omega
  exact⟨ha (by omega),(hW.cell (p:=⟨b,off+k,none⟩) hb).trans (hc k (by omega))⟩
 have HIC:Hid (∀W,Below w.heap.size w W->∀k,k<N->Calls Tryz.prog 42 #[.int .i64 (l.getD k 0)] W fun e w'=>e=.returned (zay (Lib.itoa (l.getD k 0)))/\Below W.heap.size W w'):=fun W hW k hk=>by have hd:=hx (l.getD k 0) (by rw[List.getD_eq_getElem?_getD,List.getElem?_eq_getElem (by omega)];exact List.getElem_mem _);exact hI _ W hd.1 hd.2 (zbF hp hW)
 have HJ:=zaf (fun(W:World) (u:Value) (hu:W.ownsRow w.heap.size 9 1 u N ((l.map Lib.itoa).map zay))=>zfZ hJ w.heap.size N (l.map Lib.itoa) u W (by rw[List.length_map];exact hN) hu (by omega) (by
  have h1:=zhO 7 (l.map Lib.itoa) fun t ht=>by obtain⟨d,hd,rfl⟩:=List.mem_map.1 ht;exact zlw (hx d hd)
  rw[List.length_map]at h1;omega))
 have HTK:Hid (∀k,k<N->(l.take (k+1)).map (fun d=>zay (Lib.itoa d))=(l.take k).map (fun d=>zay (Lib.itoa d))++[zay (Lib.itoa (l.getD k 0))]):=fun k hk=>by rw[List.take_succ_eq_append_getElem (by omega),List.map_append];simp[List.getD,List.getElem?_eq_getElem (show k<l.length by omega)]
 have HALL:Hid ((l.take N).map (fun d=>zay (Lib.itoa d))=(l.map Lib.itoa).map zay):=by show(l.take N).map _=_;rw[List.take_of_length_le (by omega),List.map_map];rfl
 obtain⟨i0,hi,hz0,hz1,hz2⟩:=info_parts zkw;have HI:Hid (Tryz.prog.info? 9=some i0/\i0.zero=some (.string ⟨#[]⟩)/\i0.size=1/\i0.bytes=16):=⟨hi,hz0,hz1,hz2⟩;rw[hN]at hl ⊢;clear hi hz0 hz1 hz2 ha hbB hc hJ hI hx hp hN;go_enter Tryz.func21,Tryz.ntmps21;go_wp2_with fail
 go_loopw [6,11] (fun v6 v11 wr=>∃k:Nat,k<=N/\v11=.int .i64 k/\wr.ownsRow w.heap.size 9 1 v6 k ((l.take k).map (fun d=>zay (Lib.itoa d)))/\Below w.heap.size w wr) (fun _ v11 _=>N-(intOf v11).toNat)
 case atStart=>exact⟨0,Nat.zero_le _,rfl,World.ownsRow_nil _ _ _ _,Below.refl _ _⟩
 case round =>
  obtain⟨k,hk,rfl,hown,hbel⟩:=hrel;obtain⟨ad6,cap6,rfl⟩:=zcb hown;by_cases hlt:k<N
  ·have hlt':(k:Int)<(N:Int):=by omega
   obtain⟨rfl,hcx⟩:=HE.out wr hbel k hlt;have HC:=zaf (HIC.out wr hbel k hlt);have HT:=zaf (HTK.out k hlt);obtain⟨d,hd⟩:∃d,l.getD k 0=d:=⟨_,rfl⟩;rw[hd]at hcx HC HT;have HOW:=zaf hown;have HB:=zaf hbel;have hsz:=hbel.size;clear hd hown hbel;go_wp2_with (first | (go_at_call 42;refine HC.out.mono ?_;rintro e w1 ⟨rfl,hb1⟩;have HB1:Hid (Below w.heap.size w w1):=HB.out.trans (hb1.mono hsz);have HOW1:=zaf (zat HOW.out hb1 (Nat.le_refl _));have hs1:=HB1.out.size;clear hb1) | (at_builtin;refine wpList_append_own _ rfl (.tmp 15) (.tmp 18) 86 rfl w.heap.size 9 i0 (.string ⟨#[]⟩) 1 16 Tryz.underlying86 HI.out.1 HI.out.2.1 HI.out.2.2.1 HI.out.2.2.2 rfl (by decide) (.slice ad6 k cap6) k ((l.take k).map (fun d=>zay (Lib.itoa d))) rfl (HOW1.out.alloc _) ⟨w1.heap.size,0,none⟩ 1 1 [zay (Lib.itoa d)] rfl rfl (cell_one_new _ _ _) (by simp[Value.oneCell']) (by unfold maxLen;omega) (by omega) (by simp;omega) ?_;intro v2 w2 hown2 hgr2 hnil2;obtain⟨g2,cap2,rfl⟩:=ownsRow_succ hown2));have HB2:Below w.heap.size w w2:=(HB1.out.alloc hs1 _).grown hgr2 (by simp;omega) (fun m hm=>(HOW1.out.lt m hm).1);go_roundw
   case rel=>exact⟨k+1,by omega,by go_num,by rw[HT.out];exact hown2,HB2⟩
   case measure=>simp[intOf];omega
  ·have hlt':¬(k:Int)<(N:Int):=by omega
   obtain rfl:k=N:=by omega
   rw[HALL.out]at hown;have HC:=zaf (HJ.out wr _ hown);have HB:=zaf hbel;have hsz:=hbel.size;clear hown hbel;go_wp2_with (go_at_call 43;refine HC.out.mono ?_;rintro e w1 ⟨rfl,hb1⟩);go_ret2;exact⟨rfl,HB.out.trans (hb1.mono hsz)⟩
end Go.Proofs.YthlhgiihngcobaaGreatDoor
