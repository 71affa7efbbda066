/-
  PROVED HERE: package run's fault tells its name; package run's session takes a history, and answers a line as what is asked of it (LineOk) says.
  Conditions: none but those that each theorem's own premises say.
-/
import Derived.Test.YthlhgiihngcobaaGreatDoorMgby
import Derived.Test.YthlhgiihngcobaaGreatDoorMgaw
import Derived.Test.YthlhgiihngcobaaGreatDoorMgaz
set_option maxHeartbeats 32000000
set_option maxRecDepth 100000
namespace Go.Proofs.YthlhgiihngcobaaGreatDoor
open Go.RowKit
theorem zli(n:Int)(w:World)(h1:1<=n)(h8:n<=8):Calls Tryz.prog 38 #[.int .i64 n] w fun e w'=>e=.returned (zay (zdp n))/\w'=w:=by
 rcases(show n=1\/n=2\/n=3\/n=4\/n=5\/n=6\/n=7\/n=8 by omega)with rfl | rfl | rfl | rfl | rfl | rfl | rfl | rfl
 all_goals
  go_enter Tryz.func38,Tryz.ntmps38;go_wp2_with fail;go_ret;exact⟨rfl,rfl⟩
theorem ziT(n:Int)(w:World)(h1:1<=n)(h8:n<=8)(hg:EtAt w):Calls Tryz.prog 16 #[.agg #[.iface 80 (.int .i64 n)]] w fun e w'=>e=.returned (zay (zdp n))/\Below w.heap.size w w':=by
 obtain⟨W,hW⟩:∃W,W=(w.alloc (.cells #[.iface 80 (.int .i64 n)] 51)).alloc (.cells #[.int .i64 0] 80):=⟨_,rfl⟩;have hgA:W.cell? ⟨1,0,none⟩=some (.iface 239 (.agg #[.pointer (some ⟨6,39,none⟩)])):=by rw[hW];exact(hg.alloc _).alloc _
 have htA:W.cell? ⟨w.heap.size+1,0,none⟩=some (.int .i64 0):=by rw[hW,World.cell?_alloc_at _ _ _ _ (by simp)];rfl
 have hfA:W.frozen? ⟨w.heap.size+1,0,none⟩=false:=by rw[hW];simp
 have hB:Below w.heap.size w W:=by rw[hW];exact((Below.refl _ w).alloc (Nat.le_refl _) _).alloc (by simp) _
 have hz:W.heap.size=w.heap.size+2:=by rw[hW];simp
 have HA:Hid (Calls Tryz.prog 37 #[.iface 51 (.agg #[.iface 80 (.int .i64 n)]),.iface 82 (.pointer (some ⟨w.heap.size+1,0,none⟩))] W fun e w'=>e=.returned (.bool true)/\w'.cell? ⟨w.heap.size+1,0,none⟩=some (.int .i64 n)/\Below w.heap.size w w'):=by refine(zmA n _ (.int .i64 0) W hgA htA hfA).mono ?_;rintro e w' ⟨rfl,hw⟩;obtain⟨V,hV,rfl⟩:∃V,Below W.heap.size W V/\w'=V.setCell ⟨w.heap.size+1,0,none⟩ (.int .i64 n):=⟨_,by go_grown,hw⟩;refine⟨rfl,World.cell?_setCell_same' _ _ _ ?_,(hB.trans (hV.mono hB.size)).setCell (p:=⟨w.heap.size+1,0,none⟩) (by show w.heap.size<=w.heap.size+1;omega) _⟩;rw[hV.cell (p:=⟨w.heap.size+1,0,none⟩) (by show w.heap.size+1<_;omega),htA];rfl
 have HE:=zaf (fun W=>zli n W h1 h8);rw[hW]at HA;clear hgA htA hfA hB hz hW hg h1 h8;go_enter Tryz.func16,Tryz.ntmps16;go_wp2_with (first | (go_at_call 37;refine HA.out.mono ?_;rintro e w1 ⟨rfl,hc1,hb1⟩) | (go_at_call 38;refine(HE.out _).mono ?_;rintro e w2 ⟨rfl,rfl⟩));go_ret;exact⟨rfl,hb1⟩
theorem ziX(a:Addr)(s:ByteArray)(w:World)(ha:w.cell? a=some (.string s)):Calls Tryz.prog 316 #[.pointer (some a)] w fun e w'=>e=.returned (.string s)/\w'=w:=by go_enter Tryz.func316,Tryz.ntmps316;go_wp2_with fail;go_ret;exact⟨rfl,rfl⟩
theorem zlt(a:Addr)(w:World)(ha:w.cell? a=some (.string ⟨#[98,97,100]⟩))(hg:EtAt w):Calls Tryz.prog 16 #[.agg #[.iface 337 (.pointer (some a))]] w fun e w'=>e=.returned (zay zou)/\Below w.heap.size w w':=by
 have hal:=World.block_lt_of_cell? w a ha;obtain⟨W,hW⟩:∃W,W=(w.alloc (.cells #[.iface 337 (.pointer (some a))] 51)).alloc (.cells #[.int .i64 0] 80):=⟨_,rfl⟩;have hgA:W.cell? ⟨1,0,none⟩=some (.iface 239 (.agg #[.pointer (some ⟨6,39,none⟩)])):=by rw[hW];exact(hg.alloc _).alloc _
 have htA:W.cell? ⟨w.heap.size+1,0,none⟩=some (.int .i64 0):=by rw[hW,World.cell?_alloc_at _ _ _ _ (by simp)];rfl
 have hfA:W.cell? ⟨w.heap.size,0,none⟩=some (.iface 337 (.pointer (some a))):=by rw[hW,World.cell?_alloc_lt _ _ _ (by simp),World.cell?_alloc_at _ _ _ _ (by simp)];rfl
 have hB:Below w.heap.size w W:=by rw[hW];exact((Below.refl _ w).alloc (Nat.le_refl _) _).alloc (by simp) _
 have hz:W.heap.size=w.heap.size+2:=by rw[hW];simp
 have HA:Hid (Calls Tryz.prog 37 #[.iface 51 (.agg #[.iface 337 (.pointer (some a))]),.iface 82 (.pointer (some ⟨w.heap.size+1,0,none⟩))] W fun e w'=>e=.returned (.bool false)/\(w'.cell? ⟨w.heap.size,0,none⟩=some (.iface 337 (.pointer (some a)))/\w'.cell? a=some (.string ⟨#[98,97,100]⟩))/\Below w.heap.size w w'):=by
  refine(zlM _ _ (.int .i64 0) W hgA htA).mono ?_;rintro e w' ⟨rfl,hw⟩;have hV:Below W.heap.size W w':=by rw[hw];go_grown
  exact⟨rfl,⟨(hV.cell (p:=⟨w.heap.size,0,none⟩) (by show w.heap.size<_;omega)).trans hfA,(hV.cell (p:=a) (by omega)).trans ((hB.cell (p:=a) hal).trans ha)⟩,hB.trans (hV.mono hB.size)⟩
 rw[hW]at HA;clear hgA htA hfA hB hz hW hg ha hal;go_enter Tryz.func16,Tryz.ntmps16;go_wp2_with (first | (go_at_call 37;refine HA.out.mono ?_;rintro e w1 ⟨rfl,⟨hc0,hc1⟩,hb1⟩) | (go_at_call 316;refine(ziX a _ _ hc1).mono ?_;rintro e w2 ⟨rfl,rfl⟩));go_ret;exact⟨rfl,hb1⟩
end Go.Proofs.YthlhgiihngcobaaGreatDoor
namespace Go.Proofs.YthlhgiihngcobaaGreatDoor
open Go.RowKit
def Ses(B:Nat)(w:World)(sb:Nat)(v:Value)(h:List Op3):Prop:=w.heap[sb]? = some (.cells #[v] 30 (0,0))/\w.ownsRow B 103 3 v h.length (flat h)
theorem Ses.below{B:Nat}{w w1:World}{sb:Nat}{v:Value}{h:List Op3}(hs:Ses B w sb v h)(hb:Below w.heap.size w w1):Ses B w1 sb v h:=⟨(hb.block sb (zaS hs.1)).trans hs.1,zat hs.2 hb (Nat.le_refl _)⟩
structure ziz(sb:Nat)(w w1:World):Prop where
 os:w1.os=w.os
 tape:w1.tape=w.tape
 output:w1.output=w.output
 size:w.heap.size<=w1.heap.size
 block:∀k,k<w.heap.size->k≠sb->w1.heap[k]? = w.heap[k]?
theorem zg4{sb:Nat}{w w1:World}(h:Below w.heap.size w w1):ziz sb w w1:=⟨h.os,h.tape,h.output,h.size,fun k hk _=>h.block k hk⟩
theorem zld{sb:Nat}{w w1:World}(h:Below w.heap.size w w1)(v:Value):ziz sb w (w1.setCell ⟨sb,0,none⟩ v):=by have h0:=(Below.refl sb w1).setCell (p:=⟨sb,0,none⟩) (Nat.le_refl _) v;exact⟨h0.os.trans h.os,h0.tape.trans h.tape,h0.output.trans h.output,Nat.le_trans h.size h0.size,fun k hk hne=>(Below.heap_setCell w1 ⟨sb,0,none⟩ v k hne).trans (h.block k hk)⟩
theorem ziz.below{sb B:Nat}{w w1:World}(h:ziz sb w w1)(h1:B<=sb)(h2:B<=w.heap.size):Below B w w1:=⟨h.os,h.tape,h.output,h.size,fun k hk=>h.block k (by omega) (by omega)⟩
theorem ziz.more{sb:Nat}{w w1 w2:World}(h:ziz sb w w1)(hb:Below w1.heap.size w1 w2):ziz sb w w2 :=⟨hb.os.trans h.os,hb.tape.trans h.tape,hb.output.trans h.output,Nat.le_trans h.size hb.size,fun k hk hne=>(hb.block k (Nat.lt_of_lt_of_le hk h.size)).trans (h.block k hk hne)⟩
def zdj(h:List Op3)(l:List UInt8):List UInt8 × List Op3:=match zaL l with
 | none=>(zdp 2,h)
 | some ds=>if(chk (ds.take 41)).2≠0 then(zdp (chk (ds.take 41)).2,h)else(zny,ds)
def zfF(B sb:Nat)(w:World)(r:List UInt8 × List Op3)(e:Ending)(w1:World):Prop:=∃x y,e=.returned (.tuple #[x,y])/\zjj w1 x y r.1/\(∃v1,Ses B w1 sb v1 r.2)/\ziz sb w w1
theorem zmI{B sb:Nat}{v:Value}{h:List Op3}{w:World}(l:List UInt8)(hl:l.length<=9223372036854775807)(hs:Ses B w sb v h)(hB:B<=w.heap.size):Calls Tryz.prog 20 #[.pointer (some ⟨sb,0,none⟩),zay l] w fun e w'=>zfF B sb w (zdj h l) e w':=by
 unfold zdj;have HS:=zaf hs;cases hp:zaL l with
 | none =>have HP:=zaf (zeK l w hl hp);have HF:Hid (∀w1,Below w.heap.size w w1->zfF B sb w (zdp 2,h) (.returned (.tuple #[.string ⟨#[]⟩,.iface 80 (.int .i64 2)])) w1):=fun w1 hb=>⟨_,_,rfl,.inr (.inl ⟨_,2,rfl,rfl,by decide,rfl⟩),⟨v,HS.out.below hb⟩,zg4 hb⟩;clear hs hp hB;go_enter Tryz.func20,Tryz.ntmps20;go_wp2_with (go_at_call 41;refine HP.out.mono ?_;rintro e w1 ⟨rfl,hb1⟩);go_ret2;exact HF.out _ hb1
 | some ds =>
   by_cases hc:(chk (ds.take 41)).2=0
   ·have HP:=zaf (zjb l ds w hl hp hc);have hk:¬(chk (ds.take 41)).2≠0:=fun h=>h hc;simp only[if_neg hk]
    have HF:Hid (∀w1 v1,Below w.heap.size w w1->w1.ownsRow w.heap.size 103 3 v1 ds.length (flat ds)->zfF B sb w (zny,ds) (.returned (.tuple #[.string ⟨#[111,107]⟩,.nilIface])) (w1.setCell ⟨sb,0,none⟩ v1)):=fun w1 v1 hb ho=>by
     have hb0:=(HS.out.below hb).1;have hlt:=zaS HS.out.1;refine⟨_,_,rfl,.inl ⟨rfl,rfl⟩,⟨v1,?_,?_⟩,zld hb v1⟩
     ·simp[World.setCell,Array.getElem?_modify,hb0]
     ·refine zma (World.ownsRow.kept ho (row:=some sb) ⟨rfl,rfl,rfl,by simp[World.setCell],fun k _ hk=>Below.heap_setCell _ _ _ _ (fun e=>hk (by simp[e]))⟩ (Or.inr (zfv ho hb0 fun cs fr e=>?_))) hB;injection e with _ e2;exact absurd e2 (by decide)
    have HW:Hid (∀w1,Below w.heap.size w w1->w1.cell? ⟨sb,0,none⟩=some v/\w1.frozen? ⟨sb,0,none⟩=false):=fun w1 hb=>⟨(Lib.cell_of_heap (HS.out.below hb).1 0).trans rfl,Lib.frozen_of_heap (HS.out.below hb).1 0⟩;clear hs hp hB hc hk;go_enter Tryz.func20,Tryz.ntmps20;go_wp2_with (go_at_call 41;refine HP.out.mono ?_;rintro e w1 ⟨v1,rfl,⟨-,ho1⟩,hb1⟩;obtain⟨hc1,hf1⟩:=HW.out w1 hb1;obtain⟨ad,cap,rfl⟩:=zcb ho1;have HO1:=zaf ho1;have HB1:=zaf hb1;clear ho1 hb1);go_ret2;exact HF.out _ _ HB1.out HO1.out
   ·have HP:=zaf (zj9 l ds w hl hp hc);simp only[if_pos hc];have HF:Hid (∀w1,Below w.heap.size w w1->zfF B sb w (zdp (chk (ds.take 41)).2,h) (.returned (.tuple #[.string ⟨#[]⟩,.iface 80 (.int .i64 (chk (ds.take 41)).2)])) w1):=fun w1 hb=>⟨_,_,rfl,.inr (.inl ⟨_,_,rfl,rfl,zmd _ hc,rfl⟩),⟨v,HS.out.below hb⟩,zg4 hb⟩;obtain⟨n,hn⟩:∃n,(chk (ds.take 41)).2=n:=⟨_,rfl⟩;rw[hn]at HP HF ⊢;clear hs hp hB hc hn;go_enter Tryz.func20,Tryz.ntmps20;go_wp2_with (go_at_call 41;refine HP.out.mono ?_;rintro e w1 ⟨rfl,hb1⟩);go_ret2;exact HF.out _ hb1
theorem zng{B sb:Nat}{v:Value}{h:List Op3}{w:World}(l:List UInt8)(hl:l.length<=9223372036854775807)(hs:Ses B w sb v h)(hB:B<=w.heap.size)(hh:l.take 8=zbb):Calls Tryz.prog 15 #[.pointer (some ⟨sb,0,none⟩),zay l] w fun e w'=>zfF B sb w (zdj h (l.drop 8)) e w':=by have HC:Hid (∀W,Calls Tryz.prog 19 #[zay l,.string ⟨#[104,105,115,116,111,114,121,32]⟩] W fun e w'=>e=.returned (.tuple #[zay (l.drop 8),.bool true])/\w'=W):=fun W=>(zjJ l W).mono fun e w' ⟨he,hw⟩=>⟨by rw[he,if_pos hh,decide_eq_true hh],hw⟩;have HT:=zaf (zmI (l.drop 8) (by rw[List.length_drop];omega) hs hB);have HP:Hid (∀(W:World) (x y:Value),zjj W x y (zdj h (l.drop 8)).1->(∃v1,Ses B W sb v1 (zdj h (l.drop 8)).2)->ziz sb w W->zfF B sb w (zdj h (l.drop 8)) (.returned (.tuple #[x,y])) W):=fun W x y a b c=>⟨x,y,rfl,a,b,c⟩;clear hs hB hh hl;go_enter Tryz.func15,Tryz.ntmps15;go_wp2_with (first | (go_at_call 19;refine(HC.out _).mono ?_;rintro e w ⟨rfl,rfl⟩) | (go_at_call 20;refine HT.out.mono ?_;rintro e w2 ⟨x,y,rfl,hE,hS,hU⟩));go_ret2;exact HP.out _ _ _ hE hS hU
theorem znt{B:Nat}{w:World}{sb:Nat}{v:Value}{h:List Op3}(hs:Ses B w sb v h):zal w v h/\w.cell? ⟨sb,0,none⟩=some v/\∃(ad:Option Addr) (cap:Nat),v=.slice ad h.length cap/\h.length<=cap:=by
 refine⟨zcf hs.2 rfl,(Lib.cell_of_heap hs.1 0).trans rfl,?_⟩;rcases hs.2.2 with⟨hv,h0⟩ | ⟨g,cap,cur,hv,_,_,hc,_⟩
 ·exact⟨none,0,by rw[hv,h0],by omega⟩
 ·exact⟨_,cap,hv,hc⟩
def zjC(B sb:Nat)(w:World)(r:List UInt8 × List Op3)(e:Ending)(w1:World):Prop:=e=.returned (zay r.1)/\(∃v1,Ses B w1 sb v1 r.2)/\ziz sb w w1
structure zeW(P:List UInt8->Prop)(f:List Op3->List UInt8->List UInt8 × List Op3):Prop where
 go:∀ {B sb:Nat} {v:Value} {h:List Op3} {w:World} (l:List UInt8),P l->l.length<=9223372036854775807->Ses B w sb v h->B<=w.heap.size->(chk h).2=0->zdK w->Calls Tryz.prog 15 #[.pointer (some ⟨sb,0,none⟩),zay l] w fun e w'=>zfF B sb w (f h l) e w'
 right:∀(h:List Op3) (l:List UInt8),(chk h).2=0->(chk (f h l).2).2=0
 len:∀(h:List Op3) (l:List UInt8),(chk h).2=0->(f h l).1.length<=1000000
theorem zjT{P:List UInt8->Prop}{f:List Op3->List UInt8->List UInt8 × List Op3}(hF:zeW P f){B sb:Nat}{v:Value}{h:List Op3}{w:World}(l:List UInt8)(hP:P l)(hl:l.length<=9223372036854775807)(hs:Ses B w sb v h)(hB:B<=w.heap.size)(hsb:1<sb)(hc:(chk h).2=0)(hg:zdK w):Calls Tryz.prog 9 #[.pointer (some ⟨sb,0,none⟩),zay l] w fun e w'=>zjC B sb w (f h l) e w':=by
 have HD:=zaf (hF.go l hP hl hs hB hc hg);have HET:Hid (∀w1,ziz sb w w1->EtAt w1):=fun w1 hT=>by have h0:=hg.et;have hlt:=hg.et.lt;unfold EtAt at h0 ⊢;rw[World.cell?_of_block (w:=w) (hT.block _ hlt (by show 1≠sb;omega))];exact h0
 obtain⟨r,hr⟩:∃r,f h l=r:=⟨_,rfl⟩;rw[hr]at HD ⊢;have HF:Hid (∀w1 w2,(∃v1,Ses B w1 sb v1 r.2)->ziz sb w w1->Below w1.heap.size w1 w2->zjC B sb w r (.returned (zay r.1)) w2):=fun w1 w2 ⟨v1,h1⟩ hT hb=>⟨rfl,⟨v1,h1.below hb⟩,hT.more hb⟩;clear hs hB hsb hc hg hr hl hF hP;go_enter Tryz.func9,Tryz.ntmps9;go_wp2_with (go_at_call 15;refine HD.out.mono ?_);rintro e w1 ⟨x,y,rfl,hE,hS,hT⟩;have HS:=zaf hS;have HT:=zaf hT;have he:=HET.out w1 hT;clear hS hT;rcases hE with⟨rfl,rfl⟩ | ⟨s,n,rfl,rfl,⟨h1,h8⟩,ht⟩ | ⟨s,a,rfl,rfl,ha,ht⟩
 ·go_wp2_with fail;go_ret;exact HF.out _ _ HS.out HT.out (Below.refl _ _)
 ·have HN:=zaf (ziT n w1 h1 h8 he);rw[<-ht]at HN;clear he h1 h8 ht;go_wp2_with (go_at_call 16;refine HN.out.mono ?_;rintro e w2 ⟨rfl,hb2⟩);go_ret;exact HF.out _ _ HS.out HT.out hb2
 ·have HN:=zaf (zlt a w1 ha he);rw[<-ht]at HN;clear he ha ht;go_wp2_with (go_at_call 16;refine HN.out.mono ?_;rintro e w2 ⟨rfl,hb2⟩);go_ret;exact HF.out _ _ HS.out HT.out hb2
end Go.Proofs.YthlhgiihngcobaaGreatDoor
