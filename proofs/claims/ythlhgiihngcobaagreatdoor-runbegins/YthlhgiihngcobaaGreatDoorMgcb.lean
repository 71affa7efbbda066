/-
  PROVED HERE: package run's session takes a history, and answers a line as what is asked of it (LineOk) says; package run's Run answers a text line by line, as what is asked of its lines (LineOk) says; package run's session answers any line as chapter 20 says (lineF), and keeps its history so; package run's Run answers any text as chapter 20 says, line by line (runB lineF []).
  Conditions: none but those that each theorem's own premises say.
-/
import Derived.Test.YthlhgiihngcobaaGreatDoorMgca
import Derived.Test.YthlhgiihngcobaaGreatDoorMgas
import Derived.Test.YthlhgiihngcobaaGreatDoorMgaf
set_option maxHeartbeats 32000000
set_option maxRecDepth 100000
namespace Go.Proofs.YthlhgiihngcobaaGreatDoor
open Go.RowKit
def Ses(B:Nat)(w:World)(sb:Nat)(v:Value)(h:List Op3):Prop:=w.heap[sb]? = some (.cells #[v] 30 (0,0))/\w.ownsRow B 103 3 v h.length (flat h)
theorem Ses.below{B:Nat}{w w1:World}{sb:Nat}{v:Value}{h:List Op3}(hs:Ses B w sb v h)(hb:Below w.heap.size w w1):Ses B w1 sb v h:=⟨(hb.block sb (zbz hs.1)).trans hs.1,zaG hs.2 hb (Nat.le_refl _)⟩
structure zqD(sb:Nat)(w w1:World):Prop where
 os:w1.os=w.os
 tape:w1.tape=w.tape
 output:w1.output=w.output
 size:w.heap.size<=w1.heap.size
 block:∀k,k<w.heap.size->k≠sb->w1.heap[k]? = w.heap[k]?
theorem zoe{sb:Nat}{w w1:World}(h:Below w.heap.size w w1):zqD sb w w1:=⟨h.os,h.tape,h.output,h.size,fun k hk _=>h.block k hk⟩
theorem zwz{sb:Nat}{w w1:World}(h:Below w.heap.size w w1)(v:Value):zqD sb w (w1.setCell ⟨sb,0,none⟩ v):=by have h0:=(Below.refl sb w1).setCell (p:=⟨sb,0,none⟩) (Nat.le_refl _) v;exact⟨h0.os.trans h.os,h0.tape.trans h.tape,h0.output.trans h.output,Nat.le_trans h.size h0.size,fun k hk hne=>(Below.heap_setCell w1 ⟨sb,0,none⟩ v k hne).trans (h.block k hk)⟩
theorem zqD.below{sb B:Nat}{w w1:World}(h:zqD sb w w1)(h1:B<=sb)(h2:B<=w.heap.size):Below B w w1:=⟨h.os,h.tape,h.output,h.size,fun k hk=>h.block k (by omega) (by omega)⟩
theorem zqD.more{sb:Nat}{w w1 w2:World}(h:zqD sb w w1)(hb:Below w1.heap.size w1 w2):zqD sb w w2 :=⟨hb.os.trans h.os,hb.tape.trans h.tape,hb.output.trans h.output,Nat.le_trans h.size hb.size,fun k hk hne=>(hb.block k (Nat.lt_of_lt_of_le hk h.size)).trans (h.block k hk hne)⟩
def zm6(h:List Op3)(l:List UInt8):List UInt8 × List Op3:=match zbT l with
 | none=>(zeU 2,h)
 | some ds=>if(chk (ds.take 41)).2≠0 then(zeU (chk (ds.take 41)).2,h)else(zBN,ds)
def zk1(B sb:Nat)(w:World)(r:List UInt8 × List Op3)(e:Ending)(w1:World):Prop:=∃x y,e=.returned (.tuple #[x,y])/\ztU w1 x y r.1/\(∃v1,Ses B w1 sb v1 r.2)/\zqD sb w w1
theorem zAo{B sb:Nat}{v:Value}{h:List Op3}{w:World}(l:List UInt8)(hl:l.length<=9223372036854775807)(hs:Ses B w sb v h)(hB:B<=w.heap.size):Calls Tryz.prog 20 #[.pointer (some ⟨sb,0,none⟩),za2 l] w fun e w'=>zk1 B sb w (zm6 h l) e w':=by
 unfold zm6;have HS:=zau hs;cases hp:zbT l with
 | none =>have HP:=zau (ziM l w hl hp);have HF:Hid (∀w1,Below w.heap.size w w1->zk1 B sb w (zeU 2,h) (.returned (.tuple #[.string ⟨#[]⟩,.iface 80 (.int .i64 2)])) w1):=fun w1 hb=>⟨_,_,rfl,.inr (.inl ⟨_,2,rfl,rfl,by decide,rfl⟩),⟨v,HS.out.below hb⟩,zoe hb⟩;clear hs hp hB;go_enter Tryz.func20,Tryz.ntmps20;go_wp2_with (go_at_call 41;refine HP.out.mono ?_;rintro e w1 ⟨rfl,hb1⟩);go_ret2;exact HF.out _ hb1
 | some ds =>
   by_cases hc:(chk (ds.take 41)).2=0
   ·have HP:=zau (zuf l ds w hl hp hc);have hk:¬(chk (ds.take 41)).2≠0:=fun h=>h hc;simp only[if_neg hk]
    have HF:Hid (∀w1 v1,Below w.heap.size w w1->w1.ownsRow w.heap.size 103 3 v1 ds.length (flat ds)->zk1 B sb w (zBN,ds) (.returned (.tuple #[.string ⟨#[111,107]⟩,.nilIface])) (w1.setCell ⟨sb,0,none⟩ v1)):=fun w1 v1 hb ho=>by
     have hb0:=(HS.out.below hb).1;have hlt:=zbz HS.out.1;refine⟨_,_,rfl,.inl ⟨rfl,rfl⟩,⟨v1,?_,?_⟩,zwz hb v1⟩
     ·simp[World.setCell,Array.getElem?_modify,hb0]
     ·refine zhm (World.ownsRow.kept ho (row:=some sb) ⟨rfl,rfl,rfl,by simp[World.setCell],fun k _ hk=>Below.heap_setCell _ _ _ _ (fun e=>hk (by simp[e]))⟩ (Or.inr (zku ho hb0 fun cs fr e=>?_))) hB;injection e with _ e2;exact absurd e2 (by decide)
    have HW:Hid (∀w1,Below w.heap.size w w1->w1.cell? ⟨sb,0,none⟩=some v/\w1.frozen? ⟨sb,0,none⟩=false):=fun w1 hb=>⟨(Lib.cell_of_heap (HS.out.below hb).1 0).trans rfl,Lib.frozen_of_heap (HS.out.below hb).1 0⟩;clear hs hp hB hc hk;go_enter Tryz.func20,Tryz.ntmps20;go_wp2_with (go_at_call 41;refine HP.out.mono ?_;rintro e w1 ⟨v1,rfl,⟨-,ho1⟩,hb1⟩;obtain⟨hc1,hf1⟩:=HW.out w1 hb1;obtain⟨ad,cap,rfl⟩:=zdR ho1;have HO1:=zau ho1;have HB1:=zau hb1;clear ho1 hb1);go_ret2;exact HF.out _ _ HB1.out HO1.out
   ·have HP:=zau (zsu l ds w hl hp hc);simp only[if_pos hc];have HF:Hid (∀w1,Below w.heap.size w w1->zk1 B sb w (zeU (chk (ds.take 41)).2,h) (.returned (.tuple #[.string ⟨#[]⟩,.iface 80 (.int .i64 (chk (ds.take 41)).2)])) w1):=fun w1 hb=>⟨_,_,rfl,.inr (.inl ⟨_,_,rfl,rfl,zpK _ hc,rfl⟩),⟨v,HS.out.below hb⟩,zoe hb⟩;obtain⟨n,hn⟩:∃n,(chk (ds.take 41)).2=n:=⟨_,rfl⟩;rw[hn]at HP HF ⊢;clear hs hp hB hc hn;go_enter Tryz.func20,Tryz.ntmps20;go_wp2_with (go_at_call 41;refine HP.out.mono ?_;rintro e w1 ⟨rfl,hb1⟩);go_ret2;exact HF.out _ hb1
theorem zzR{B sb:Nat}{v:Value}{h:List Op3}{w:World}(l:List UInt8)(hl:l.length<=9223372036854775807)(hs:Ses B w sb v h)(hB:B<=w.heap.size)(hh:l.take 8=zfk):Calls Tryz.prog 15 #[.pointer (some ⟨sb,0,none⟩),za2 l] w fun e w'=>zk1 B sb w (zm6 h (l.drop 8)) e w':=by have HC:Hid (∀W,Calls Tryz.prog 19 #[za2 l,.string ⟨#[104,105,115,116,111,114,121,32]⟩] W fun e w'=>e=.returned (.tuple #[za2 (l.drop 8),.bool true])/\w'=W):=fun W=>(ztT l W).mono fun e w' ⟨he,hw⟩=>⟨by rw[he,if_pos hh,decide_eq_true hh],hw⟩;have HT:=zau (zAo (l.drop 8) (by rw[List.length_drop];omega) hs hB);have HP:Hid (∀(W:World) (x y:Value),ztU W x y (zm6 h (l.drop 8)).1->(∃v1,Ses B W sb v1 (zm6 h (l.drop 8)).2)->zqD sb w W->zk1 B sb w (zm6 h (l.drop 8)) (.returned (.tuple #[x,y])) W):=fun W x y a b c=>⟨x,y,rfl,a,b,c⟩;clear hs hB hh hl;go_enter Tryz.func15,Tryz.ntmps15;go_wp2_with (first | (go_at_call 19;refine(HC.out _).mono ?_;rintro e w ⟨rfl,rfl⟩) | (go_at_call 20;refine HT.out.mono ?_;rintro e w2 ⟨x,y,rfl,hE,hS,hU⟩));go_ret2;exact HP.out _ _ _ hE hS hU
theorem zzf{B:Nat}{w:World}{sb:Nat}{v:Value}{h:List Op3}(hs:Ses B w sb v h):zai w v h/\w.cell? ⟨sb,0,none⟩=some v/\∃(ad:Option Addr) (cap:Nat),v=.slice ad h.length cap/\h.length<=cap:=by
 refine⟨zdT hs.2 rfl,(Lib.cell_of_heap hs.1 0).trans rfl,?_⟩;rcases hs.2.2 with⟨hv,h0⟩ | ⟨g,cap,cur,hv,_,_,hc,_⟩
 ·exact⟨none,0,by rw[hv,h0],by omega⟩
 ·exact⟨_,cap,hv,hc⟩
def zsd(B sb:Nat)(w:World)(r:List UInt8 × List Op3)(e:Ending)(w1:World):Prop:=e=.returned (za2 r.1)/\(∃v1,Ses B w1 sb v1 r.2)/\zqD sb w w1
structure zjx(P:List UInt8->Prop)(f:List Op3->List UInt8->List UInt8 × List Op3):Prop where
 go:∀ {B sb:Nat} {v:Value} {h:List Op3} {w:World} (l:List UInt8),P l->l.length<=9223372036854775807->Ses B w sb v h->B<=w.heap.size->(chk h).2=0->zgX w->Calls Tryz.prog 15 #[.pointer (some ⟨sb,0,none⟩),za2 l] w fun e w'=>zk1 B sb w (f h l) e w'
 right:∀(h:List Op3) (l:List UInt8),(chk h).2=0->(chk (f h l).2).2=0
 len:∀(h:List Op3) (l:List UInt8),(chk h).2=0->(f h l).1.length<=1000000
theorem zso{P:List UInt8->Prop}{f:List Op3->List UInt8->List UInt8 × List Op3}(hF:zjx P f){B sb:Nat}{v:Value}{h:List Op3}{w:World}(l:List UInt8)(hP:P l)(hl:l.length<=9223372036854775807)(hs:Ses B w sb v h)(hB:B<=w.heap.size)(hsb:1<sb)(hc:(chk h).2=0)(hg:zgX w):Calls Tryz.prog 9 #[.pointer (some ⟨sb,0,none⟩),za2 l] w fun e w'=>zsd B sb w (f h l) e w':=by
 have HD:=zau (hF.go l hP hl hs hB hc hg);have HET:Hid (∀w1,zqD sb w w1->EtAt w1):=fun w1 hT=>by have h0:=hg.et;have hlt:=hg.et.lt;unfold EtAt at h0 ⊢;rw[World.cell?_of_block (w:=w) (hT.block _ hlt (by show 1≠sb;omega))];exact h0
 obtain⟨r,hr⟩:∃r,f h l=r:=⟨_,rfl⟩;rw[hr]at HD ⊢;have HF:Hid (∀w1 w2,(∃v1,Ses B w1 sb v1 r.2)->zqD sb w w1->Below w1.heap.size w1 w2->zsd B sb w r (.returned (za2 r.1)) w2):=fun w1 w2 ⟨v1,h1⟩ hT hb=>⟨rfl,⟨v1,h1.below hb⟩,hT.more hb⟩;clear hs hB hsb hc hg hr hl hF hP;go_enter Tryz.func9,Tryz.ntmps9;go_wp2_with (go_at_call 15;refine HD.out.mono ?_);rintro e w1 ⟨x,y,rfl,hE,hS,hT⟩;have HS:=zau hS;have HT:=zau hT;have he:=HET.out w1 hT;clear hS hT;rcases hE with⟨rfl,rfl⟩ | ⟨s,n,rfl,rfl,⟨h1,h8⟩,ht⟩ | ⟨s,a,rfl,rfl,ha,ht⟩
 ·go_wp2_with fail;go_ret;exact HF.out _ _ HS.out HT.out (Below.refl _ _)
 ·have HN:=zau (zqn n w1 h1 h8 he);rw[<-ht]at HN;clear he h1 h8 ht;go_wp2_with (go_at_call 16;refine HN.out.mono ?_;rintro e w2 ⟨rfl,hb2⟩);go_ret;exact HF.out _ _ HS.out HT.out hb2
 ·have HN:=zau (zwS a w1 ha he);rw[<-ht]at HN;clear he ha ht;go_wp2_with (go_at_call 16;refine HN.out.mono ?_;rintro e w2 ⟨rfl,hb2⟩);go_ret;exact HF.out _ _ HS.out HT.out hb2
end Go.Proofs.YthlhgiihngcobaaGreatDoor
namespace Go.Proofs.YthlhgiihngcobaaGreatDoor
open Go.RowKit Go.Shelf
attribute [local go_sem] Oper.semAt_some
theorem zlZ{w w1:World}{B e s n:Nat}{v:Value}{xs:List Value}{row:Option Nat}(h:w.ownsRow B e s v n xs)(hg:w.grownBy w1 row)(hr:∀r,row=some r->∃o:Obj,w.heap[r]? = some o/\∀cs fr,o≠.cells cs e fr):w1.ownsRow B e s v n xs:=by
 refine h.kept hg ?_;cases hv:v.ownBlock with
 | none=>exact .inl rfl
 | some g =>refine .inr fun e=>?_;obtain⟨o,h1,h2⟩:=hr g e.symm;exact zku h h1 h2 hv
theorem zuD{B sb:Nat}{w w1:World}{v:Value}{h:List Op3}{row:Option Nat}(hs:Ses B w sb v h)(hg:w.grownBy w1 row)(hr:∀r,row=some r->∃o:Obj,w.heap[r]? = some o/\(∀cs fr,o≠.cells cs 30 fr)/\∀cs fr,o≠.cells cs 103 fr):Ses B w1 sb v h :=⟨(hg.block sb (zbz hs.1) (fun e=>by obtain⟨o,h1,h2,_⟩:=hr sb e.symm;rw[hs.1]at h1;exact h2 _ _ (Option.some.inj h1).symm)).trans hs.1,zlZ hs.2 hg fun r e=>by obtain⟨o,h1,_,h3⟩:=hr r e;exact⟨o,h1,h3⟩⟩
theorem zva{B tb:Nat}{w:World}{bs:List Value}(h:Lib.IsBuilder 34 5 B tb bs w):∃cs,w.heap[tb]? = some (.cells cs 34 (0,0)):=by
 rcases h with⟨_,v,hv,_⟩ | ⟨_,v,hv,_⟩
 ·exact⟨_,hv⟩
 ·exact⟨_,hv⟩
theorem zhs{B tb:Nat}{w w1:World}{bs:List Value}{row:Option Nat}(h:Lib.IsBuilder 34 5 B tb bs w)(hg:w.grownBy w1 row)(hr:∀r,row=some r->∃o:Obj,w.heap[r]? = some o/\(∀cs fr,o≠.cells cs 34 fr)/\∀cs fr,o≠.cells cs 5 fr):Lib.IsBuilder 34 5 B tb bs w1/\w1.heap[tb]? = w.heap[tb]? := by
 obtain⟨cs,hcs⟩:=zva h;have hb:w1.heap[tb]? = w.heap[tb]? := hg.block tb (zbz hcs) (fun e=>by obtain⟨o,h1,h2,_⟩:=hr tb e.symm;rw[hcs]at h1;exact h2 _ _ (Option.some.inj h1).symm);have one:∀p,Lib.BuilderAt 34 5 B tb p bs w->Lib.BuilderAt 34 5 B tb p bs w1:=by rintro p ⟨h1,v,hbk,hown,hne⟩;exact⟨h1,v,hb.trans hbk,zlZ hown hg (fun r e=>by obtain⟨o,h1,_,h3⟩:=hr r e;exact⟨o,h1,h3⟩),hne⟩
 refine⟨?_,hb⟩;rcases h with h | h
 ·exact .inl (one _ h)
 ·exact .inr (one _ h)
theorem zfE{B sb:Nat}{w w1:World}{v:Value}{h:List Op3}(hs:Ses B w sb v h)(hU:zcj w w1):Ses B w1 sb v h:=by
 refine⟨hU sb _ hs.1 (fun cs fr e=>?_) (fun cs fr e=>?_),hs.2.1,?_⟩
 ·injection e with _ e2;exact absurd e2 (by decide)
 ·injection e with _ e2;exact absurd e2 (by decide)
 ·rcases hs.2.2 with hn | ⟨g,cap,cur,hv,hb,hg,rest⟩
  ·exact .inl hn
  ·refine .inr ⟨g,cap,cur,hv,hb,hU g _ hg (fun cs fr e=>?_) (fun cs fr e=>?_),rest⟩
   ·injection e with _ e2;exact absurd e2 (by decide)
   ·injection e with _ e2;exact absurd e2 (by decide)
theorem zq3{sb:Nat}{w w1:World}{cs:Array Value}{T:TypeId}{fr:Nat × Nat}(h:zqD sb w w1)(hs:w.heap[sb]? = some (.cells cs T fr)):KeepsOthers w w1 :=⟨h.size,fun k o hk ho=>(h.block k (zbz hk) (fun e=>by rw[e,hs]at hk;rw[<-Option.some.inj hk]at ho;cases ho)).trans hk⟩
theorem zev{B:Nat}{w w1:World}(h:zcj w w1)(hb:Below B w w1):KeepsOthers w w1 :=⟨hb.size,fun k o hk ho=>h k o hk (fun cs fr e=>by rw[e]at ho;cases ho) (fun cs fr e=>by rw[e]at ho;cases ho)⟩
theorem zAu{S:Type}(f:S->List UInt8->List UInt8 × S)(h:S)(a b:List (List UInt8)):stL f h (a++b)=stL f (stL f h a) b:=by
 induction a generalizing h with
 | nil=>rfl
 | cons l r ih=>exact ih _
theorem zxj{P:List UInt8->Prop}{f:List Op3->List UInt8->List UInt8 × List Op3}(hF:zjx P f)(ls:List (List UInt8)):∀h,(chk h).2=0->(chk (stL f h ls)).2=0:=by
 induction ls with
 | nil=>intro h hc;exact hc
 | cons l r ih=>intro h hc;exact ih _ (hF.right h l hc)
theorem zwO{P:List UInt8->Prop}{f:List Op3->List UInt8->List UInt8 × List Op3}(hF:zjx P f)(ls:List (List UInt8)):∀h,(chk h).2=0->(zeZ f h ls).length<=ls.length*1000001:=by
 induction ls with
 | nil=>intro h _;exact Nat.zero_le _
 | cons l r ih =>intro h hc;have h1:=ih _ (hF.right h l hc);have h2:=hF.len h l hc;show((f h l).1++10::zeZ f (f h l).2 r).length<=_;rw[List.length_append,List.length_cons,List.length_cons,Nat.succ_mul];omega
theorem zpR(f:List Op3->List UInt8->List UInt8 × List Op3)(ls:List (List UInt8))(x:List UInt8):zeZ f [] (ls++[x])=zeZ f [] ls++(f (stL f [] ls) x).1++[10]:=by rw[zpz];simp[zeZ]
def zyI(w:World)(h:List Op3)(t:List UInt8)(W:World):Prop:=(∃v,Ses w.heap.size W w.heap.size v h)/\Lib.IsBuilder 34 5 w.heap.size (w.heap.size+1) (Lib.byteCells t) W
def zAP{P:List UInt8->Prop}(f:List Op3->List UInt8->List UInt8 × List Op3)(w:World)(pre:List (Ln P))(W:World):Prop:=(zyI w (stL f [] (pre.map (·.1))) (zeZ f [] (pre.map (·.1))) W/\(zeZ f [] (pre.map (·.1))=[]->W.heap[w.heap.size+1]? = some (.cells #[.pointer none,.slice none 0 0] 34 (0,0))))/\Below w.heap.size w W
theorem zxY{P:List UInt8->Prop}(f:List Op3->List UInt8->List UInt8 × List Op3)(w:World)(B:Nat)(hB:w.heap.size<=B):OwnFrom B (zAP (P:=P) f w):=by
 intro pre W W1 row ⟨⟨⟨⟨v,hs⟩,hb⟩,hf⟩,hbel⟩ hg hr;have hr':∀r,row=some r->∃o:Obj,W.heap[r]? = some o/\∀cs T fr,o≠.cells cs T fr:=fun r e=>by obtain⟨_,o,h1,h2⟩:=hr r e;exact⟨o,h1,fun cs T fr e=>by rw[e]at h2;cases h2⟩
 obtain⟨h1,h2⟩:=zhs hb hg fun r e=>by obtain⟨o,h1,h2⟩:=hr' r e;exact⟨o,h1,fun cs fr=>h2 cs _ fr,fun cs fr=>h2 cs _ fr⟩
 exact⟨⟨⟨⟨v,zuD hs hg fun r e=>by obtain⟨o,h1,h2⟩:=hr' r e;exact⟨o,h1,fun cs fr=>h2 cs _ fr,fun cs fr=>h2 cs _ fr⟩⟩,h1⟩,fun e=>h2.trans (hf e)⟩,hbel.grown hg hbel.size fun k e=>Nat.le_trans hB (hr k e).1⟩
def zd6(w W W1:World):Prop:=KeepsOthers W W1/\Below w.heap.size W W1
theorem zd6.trans{w A B C:World}(h:zd6 w A B)(k:zd6 w B C):zd6 w A C:=⟨h.1.trans k.1,h.2.trans k.2⟩
theorem zAq{P:List UInt8->Prop}{f:List Op3->List UInt8->List UInt8 × List Op3}(hF:zjx P f){w W:World}{h:List Op3}{t:List UInt8}(x:Ln P)(hJ:zyI w h t W)(hz:w.heap.size<=W.heap.size)(hsb:1<w.heap.size)(hc:(chk h).2=0)(hg:zgX W):Calls Tryz.prog 9 #[.pointer (some ⟨w.heap.size,0,none⟩),za2 x.1] W fun e w1=>e=.returned (za2 (f h x.1).1)/\zyI w (f h x.1).2 t w1/\zd6 w W w1:=by
 obtain⟨⟨v,hs⟩,hb⟩:=hJ;refine(zso hF x.1 x.2.2 (Nat.le_trans x.2.1 (by decide)) hs hz hsb hc hg).mono ?_;rintro e w1 ⟨rfl,hs1,hT⟩;obtain⟨h1,-⟩:=zhs hb (row:=some w.heap.size) ⟨hT.os,hT.tape,hT.output,hT.size,fun k hk hne=>hT.block k hk fun e=>hne (by rw[e])⟩ fun r e=>by cases e;exact⟨_,hs.1,fun cs fr e=>(by injection e with _ e2;exact absurd e2 (by decide)),fun cs fr e=>(by injection e with _ e2;exact absurd e2 (by decide))⟩
 exact⟨rfl,⟨hs1,h1⟩,zq3 hT hs.1,hT.below (Nat.le_refl _) hz⟩
theorem zz9{w W:World}{h:List Op3}{t:List UInt8}(a:List UInt8)(hJ:zyI w h t W)(hz:w.heap.size<=W.heap.size)(hl:t.length+a.length<=140737488355328):Calls Tryz.prog 8 #[.pointer (some ⟨w.heap.size+1,0,none⟩),za2 a] W fun e w1=>(∃n,e=.returned (.tuple #[.int .i64 n,.nilIface]))/\zyI w h (t++a) w1/\zd6 w W w1:=by obtain⟨⟨v,hs⟩,hb⟩:=hJ;refine(zfB w.heap.size (w.heap.size+1) (Lib.byteCells t) ⟨a.toArray⟩ W hb (by rw[Lib.byteCells_length];show t.length+a.toArray.size<=_;rw[List.size_toArray];exact hl) hz).mono ?_;rintro e w1 ⟨rfl,hb1,hbel,hU⟩;refine⟨⟨_,rfl⟩,⟨⟨v,zfE hs hU⟩,.inr ?_⟩,zev hU hbel,hbel⟩;rw[zaW,<-zfl];exact hb1
theorem zAd{w W:World}{h:List Op3}{t:List UInt8}(hJ:zyI w h t W)(hz:w.heap.size<=W.heap.size)(hl:t.length+1<=140737488355328):Calls Tryz.prog 10 #[.pointer (some ⟨w.heap.size+1,0,none⟩),.int .u8 10] W fun e w1=>e=.returned .nilIface/\zyI w h (t++[10]) w1/\zd6 w W w1:=by obtain⟨⟨v,hs⟩,hb⟩:=hJ;refine(zil w.heap.size (w.heap.size+1) (Lib.byteCells t) 10 W hb (by rw[Lib.byteCells_length];exact hl) hz).mono ?_;rintro e w1 ⟨rfl,hb1,hbel,hU⟩;refine⟨rfl,⟨⟨v,zfE hs hU⟩,.inr ?_⟩,zev hU hbel,hbel⟩;rw[zaW];exact hb1
theorem zxg{P:List UInt8->Prop}{f:List Op3->List UInt8->List UInt8 × List Op3}{w W:World}{pre:List (Ln P)}(hI:zAP f w pre W):Calls Tryz.prog 11 #[.pointer (some ⟨w.heap.size+1,0,none⟩)] W fun e w1=>e=.returned (za2 (zeZ f [] (pre.map (·.1))))/\Below w.heap.size W w1/\zcj W w1:=by
 by_cases h:zeZ f [] (pre.map (·.1))=[]
 ·rw[h];exact zgH _ _ _ _ (hI.1.2 h)
 ·exact zfT _ _ _ _ hI.1.1.2 h
theorem znz{P:List UInt8->Prop}(n:Nat)(hn:1<=n)(Bs n₀:Nat)(s:List UInt8)(hs:s.length<=3000)(hp:∀l∈linesT [] s,P l)(w:World)(hBs:Bs<w.heap.size)(hc:w.cell? ⟨Bs,0,none⟩=some (za2 s)):SeqStopsK Fence.wide n Tryz.prog 12 #[.pointer (some ⟨Bs,0,none⟩)] (fun x:Ln P=>#[za2 x.1]) (Below n₀) (fun ys=>ys.map (·.1)=linesT [] s) (fun _=>True) (linesT [] s).length w:=fun l J Jx W hW hJ _ hY h0 =>zsQ n hn l Bs n₀ s hs hp J Jx (fun pre W h=>hJ pre W W.drew none h (zrc W) (fun r e=>by cases e)) hY W ((hW.cell (p:=⟨Bs,0,none⟩) hBs).trans hc) h0
theorem zu6{P:List UInt8->Prop}{f:List Op3->List UInt8->List UInt8 × List Op3}(hF:zjx P f)(s:List UInt8)(w:World)(hs:s.length<=3000)(hp:∀l∈linesT [] s,P l)(hg:zgX w):Calls Tryz.prog 5 #[za2 s] w fun e w'=>e=.returned (za2 (zeZ f [] (linesT [] s)))/\Below w.heap.size w w':=by
 have hL:=zi2 [] s;have HL:Hid ((linesT [] s).length<=3001):=by show _<=_;omega
 have hsz:(⟨s.toArray⟩:ByteArray).size=s.length:=by show s.toArray.size=_;rw[List.size_toArray]
 have hn:¬(3000:Int)<((⟨s.toArray⟩:ByteArray).size:Int):=by rw[hsz];omega
 have hsb:1<w.heap.size:=hg.et.lt;have HG:=zau hg;have HFF:=zau hF;have HPP:=zau hp;have HS:=zau hs;have HSB:=zau hsb;clear hL hsz hs hg hsb hF hp;refine(callsIn_wide (n:=5)).1 ?_;refine callsIn_of_wp_marks Tryz.func5 rfl trivial ?_ rfl;simp only[Tryz.ntmps5,List.size_toArray,List.length_cons,List.length_nil,Nat.reduceAdd,Nat.reduceSub,Array.replicate_succ,Array.replicate_zero,List.push_toArray,List.append_toArray,List.nil_append,List.cons_append];gi_wp2_with (refine⟨trivial,?_⟩;gi_at_call 7;refine(callsIn_wide.2 (zxe s _)).mono ?_;rintro e w1 ⟨rfl,rfl⟩);have hB0:Below w.heap.size w (((w.alloc (.cells #[.slice none 0 0] 30)).alloc (.cells #[.pointer none,.slice none 0 0] 34)).alloc (.cells #[za2 s] 9)):=(((Below.refl _ w).alloc (Nat.le_refl _) _).alloc (by simp) _).alloc (by simp;omega) _;have hs0:(((w.alloc (.cells #[.slice none 0 0] 30)).alloc (.cells #[.pointer none,.slice none 0 0] 34)).alloc (.cells #[za2 s] 9)).heap[w.heap.size]? = some (.cells #[.slice none 0 0] 30 (0,0)) :=(Below.heap_alloc _ _ _ (by simp;omega)).trans ((Below.heap_alloc _ _ _ (by simp)).trans (World.alloc_heap_new w _))
 have ht0:(((w.alloc (.cells #[.slice none 0 0] 30)).alloc (.cells #[.pointer none,.slice none 0 0] 34)).alloc (.cells #[za2 s] 9)).heap[w.heap.size+1]? = some (.cells #[.pointer none,.slice none 0 0] 34 (0,0)):=by
  refine(Below.heap_alloc _ _ _ (by simp)).trans ?_;have:=World.alloc_heap_new (w.alloc (.cells #[.slice none 0 0] 30)) (.cells #[.pointer none,.slice none 0 0] 34)
  rwa [World.size_alloc]at this
 have hI0:zAP (P:=P) f w [] (((w.alloc (.cells #[.slice none 0 0] 30)).alloc (.cells #[.pointer none,.slice none 0 0] 34)).alloc (.cells #[za2 s] 9)) :=⟨⟨⟨⟨_,hs0,World.ownsRow_nil _ _ _ _⟩,.inl ⟨by omega,_,ht0,World.ownsRow_nil _ _ _ _,by simp[Value.ownBlock]⟩⟩,fun _=>ht0⟩,hB0⟩
 refine wpIn_rangeFunc_ownF rfl (by omega) (gf:=12) (lb:=#[.pointer (some ⟨w.heap.size+1+1,0,none⟩)]) rfl trivial (enters_of Tryz.func12 (by kernel_rfl) rfl)
  (znz _ (by omega) (w.heap.size+1+1) w.heap.size s HS.out HPP.out _ (by simp) (by rw[World.cell?_alloc_at _ _ _ _ (by simp)];rfl)) belowK_t (belowK_b (by simp;omega)) (Below.refl _ _) (fun _=>rfl)
  (zAP f w) (fun _ _ _=>False) (zxY f w _ (by simp;omega)) (fun _ _ _ _ _ hs _ _=>hs) hI0
  (fun x=>{ tmps:=#[za2 s,undef,.string ⟨#[]⟩,.pointer (some ⟨w.heap.size,0,none⟩),.pointer (some ⟨w.heap.size+1,0,none⟩),za2 x.1,za2 s,.int .i64 (s.length:Int),.bool (decide ((3000:Int)<(s.length:Int))),za2 s,.func (.func 12) #[] #[.pointer (some ⟨w.heap.size+1+1,0,none⟩)],za2 x.1,undef,undef,undef,undef,undef],defers:=[] }) ?assign ?body ?done ?stop
 case assign =>intro l x W K hK;gi_wp2;exact hK
 case body =>
  rintro l pre x W hI hlt;have hB:=hI.2;have hc:=zxj HFF.out (pre.map (·.1)) [] rfl;have HA:=zau (zAq HFF.out x hI.1.1 hB.size HSB.out hc (HG.out.below hB));have hlen:=zwO HFF.out (pre.map (·.1)) [] rfl;rw[List.length_map]at hlen;have hl3:=HL.out;have hll:=HFF.out.len _ x.1 hc;have HLB:Hid ((zeZ f [] (pre.map (·.1))).length+(f (stL f [] (pre.map (·.1))) x.1).1.length+1<=140737488355328):=by show _<=_;omega
  have HF:Hid (∀W1,zyI w (f (stL f [] (pre.map (·.1))) x.1).2 (zeZ f [] (pre.map (·.1))++(f (stL f [] (pre.map (·.1))) x.1).1++[10]) W1->zd6 w W W1->KeepsOthers W W1/\Below w.heap.size W W1/\zAP f w (pre++[x]) W1):=fun W1 hJ hk=>by
   refine⟨hk.1,hk.2,⟨?_,fun e=>?_⟩,hB.trans hk.2⟩
   ·rw[List.map_append,zAu,List.map_cons,List.map_nil,zpR f];exact hJ
   ·rw[List.map_append,List.map_cons,List.map_nil,zpR f]at e;simp at e
  have HZ:=zau hB.size;obtain⟨r,hr⟩:∃r,f (stL f [] (pre.map (·.1))) x.1=r:=⟨_,rfl⟩;obtain⟨t,ht⟩:∃t,zeZ f [] (pre.map (·.1))=t:=⟨_,rfl⟩;rw[hr,ht]at HA HF HLB;clear hI hlt hB hc hlen hl3 hll hr ht;gi_wp2_with (first | (refine⟨trivial,?_⟩;gi_at_call 9;refine(CallsIn.inRound l (callsIn_wide.2 HA.out)).mono ?_;rintro e w1 ⟨rfl,hJ1,hk1⟩;have HB:=zau (zz9 r.1 hJ1 (Nat.le_trans HZ.out hk1.2.size) (by have:=HLB.out;omega));have HK1:=zau hk1;clear hJ1 hk1) | (refine⟨trivial,?_⟩;gi_at_call 8;refine(CallsIn.inRound l (callsIn_wide.2 HB.out)).mono ?_;rintro e w2 ⟨⟨n,rfl⟩,hJ2,hk2⟩;have HK2:=zau (HK1.out.trans hk2);have HC:=zau (zAd hJ2 (Nat.le_trans HZ.out HK2.out.2.size) (by have:=HLB.out;rw[List.length_append];omega));clear hJ2 hk2) | (refine⟨trivial,?_⟩;gi_at_call 10;refine(CallsIn.inRound l (callsIn_wide.2 HC.out)).mono ?_;rintro e w3 ⟨rfl,hJ3,hk3⟩));exact HF.out _ hJ3 (HK2.out.trans hk3)
 case done =>
  rintro D ys W hD hS hI hK;have HT:=zau (zxg hI);rw[hS]at HT;have HB:=zau hI.2;have hz0:w.heap.size<=D:=by simp at hD;omega
  clear hI hS;gi_wp2_with (refine⟨trivial,?_⟩;gi_at_call 11;refine(callsIn_wide.2 HT.out).mono ?_;rintro e w1 ⟨rfl,hb1,hU1⟩);have hK1:w1.heap[D]? = some (.deferred (some [])):=hU1 D _ hK (fun _ _ e=>by cases e) (fun _ _ e=>by cases e);refine⟨by simp,.inl ⟨_,_,rfl,run_takeDeferred hK1,?_⟩⟩;exact⟨_,results_tmp rfl _ _ _,rfl,(HB.out.trans hb1).trans (belowK_b (w:=w) (Nat.le_refl _) w1 D _ _ hz0 hK1 rfl rfl)⟩
 case stop =>rintro D c pre W _ _ h _;exact h.elim
theorem zwa(s:ByteArray)(w:World)(hs:3000<s.size):Calls Tryz.prog 5 #[.string s] w fun e w'=>e=.returned (.string ziA)/\Below w.heap.size w w':=by
 have h:(3000:Int)<(s.size:Int):=by omega
 clear hs;go_enter Tryz.func5,Tryz.ntmps5;go_wp2_with fail;go_ret;exact⟨rfl,Below.refl _ _⟩
end Go.Proofs.YthlhgiihngcobaaGreatDoor
namespace Go.Proofs.YthlhgiihngcobaaGreatDoor
open Go.RowKit
theorem zA7{sb:Nat}{w:World}(l:List UInt8)(h:l.take 8≠zfk)(hb:zBt w)(hn:l≠zoV/\l≠zx5/\l≠zpN/\l≠zwb/\l≠zjX/\l≠zko/\l≠zw0/\l≠zpy/\l≠zoF/\l≠zoH/\l≠zv4/\l≠zjN/\l≠zxn):Calls Tryz.prog 15 #[.pointer (some ⟨sb,0,none⟩),za2 l] w fun e w'=>zsz w' w zAG e:=by have HC:=zau (fun W=>zlD l W h);obtain⟨a,hg,ha⟩:=hb;have HP:Hid (∀(W:World),W.heap=w.heap->Below w.heap.size w W->zsz W w zAG (.returned (.tuple #[.string ⟨#[]⟩,.iface 337 (.pointer (some a))]))):=fun W hW hb=>⟨_,_,rfl,.inr (.inr ⟨_,a,rfl,rfl,(hb.cell (p:=a) (World.block_lt_of_cell? w a ha)).trans ha,rfl⟩),hb⟩;obtain⟨n0,n1,n2,n3,n4,n5,n6,n7,n8,n9,n10,n11,n12⟩:=hn;have b0:(l == [111,114,100,101,114])=false:=beq_eq_false_iff_ne.2 n0;have b1:(l == [118,105,101,119])=false:=beq_eq_false_iff_ne.2 n1;have b2:(l == [102,97,99,101,115])=false:=beq_eq_false_iff_ne.2 n2;have b3:(l == [105,108,108,115])=false:=beq_eq_false_iff_ne.2 n3;have b4:(l == [118,97,108,117,101,115])=false:=beq_eq_false_iff_ne.2 n4;have b5:(l == [100,101,116,101,99,116])=false:=beq_eq_false_iff_ne.2 n5;have b6:(l == [119,97,105,116,100,105,101])=false:=beq_eq_false_iff_ne.2 n6;have b7:(l == [119,111,117,110,100,119,97,105,116])=false:=beq_eq_false_iff_ne.2 n7;have b8:(l == [115,116,97,109,112])=false:=beq_eq_false_iff_ne.2 n8;have b9:(l == [118,97,108,105,100])=false:=beq_eq_false_iff_ne.2 n9;have b10:(l == [115,110,97,112])=false:=beq_eq_false_iff_ne.2 n10;have b11:(l == [100,97,110,103,101,114])=false:=beq_eq_false_iff_ne.2 n11;have b12:(l == [118,101,114,115,105,111,110,115])=false:=beq_eq_false_iff_ne.2 n12;clear h ha n0 n1 n2 n3 n4 n5 n6 n7 n8 n9 n10 n11 n12;go_enter Tryz.func15,Tryz.ntmps15;go_wp2_with (go_at_call 19;refine(HC.out _).mono ?_;rintro e w ⟨rfl,rfl⟩);go_quiet (fail);go_wp2_with fail;go_ret2;exact HP.out _ rfl ⟨rfl,rfl,rfl,Nat.le_refl _,fun _ _=>rfl⟩
theorem zBo{B sb:Nat}{v:Value}{h:List Op3}{w:World}(l:List UInt8)(hs:Ses B w sb v h)(hc:(chk h).2=0)(hg:zgX w)(hh:l.take 8≠zfk):Calls Tryz.prog 15 #[.pointer (some ⟨sb,0,none⟩),za2 l] w fun e w'=>zsz w' w (zeS h l) e:=by
 obtain⟨hv,hcell,ad,cap,rfl,hcap⟩:=zzf hs;have hp:=hg.pow;by_cases n0:l=zoV
 ·rw[n0,show zeS h zoV=_ by unfold zeS;rw[if_pos rfl]];exact(zcb hcell).1 (zuQ hv hc hp)
 by_cases n1:l=zx5
 ·rw[n1,show zeS h zx5=_ by unfold zeS;rw[if_neg (by decide),if_pos rfl]];exact(zcb hcell).2.1 (zv3 hv hc hp)
 by_cases n2:l=zpN
 ·rw[n2,show zeS h zpN=_ by unfold zeS;rw[if_neg (by decide),if_neg (by decide),if_pos rfl]];exact(zcb hcell).2.2.1 (zs5 hv hcap hc)
 by_cases n3:l=zwb
 ·rw[n3,show zeS h zwb=_ by unfold zeS;rw[if_neg (by decide),if_neg (by decide),if_neg (by decide),if_pos rfl]];exact(zcb hcell).2.2.2.1 (zwc hv hcap hc)
 by_cases n4:l=zjX
 ·rw[n4,show zeS h zjX=_ by unfold zeS;rw[if_neg (by decide),if_neg (by decide),if_neg (by decide),if_neg (by decide),if_pos rfl]];exact(zcb hcell).2.2.2.2.1 (zqQ hv hc hp)
 by_cases n5:l=zko
 ·rw[n5,show zeS h zko=_ by unfold zeS;rw[if_neg (by decide),if_neg (by decide),if_neg (by decide),if_neg (by decide),if_neg (by decide),if_pos rfl]];exact(zcb hcell).2.2.2.2.2.1 (zel 0 (by decide) hv hc)
 by_cases n6:l=zw0
 ·rw[n6,show zeS h zw0=_ by unfold zeS;rw[if_neg (by decide),if_neg (by decide),if_neg (by decide),if_neg (by decide),if_neg (by decide),if_neg (by decide),if_pos rfl]];exact(zcb hcell).2.2.2.2.2.2.1 (zel 1 (by decide) hv hc)
 by_cases n7:l=zpy
 ·rw[n7,show zeS h zpy=_ by unfold zeS;rw[if_neg (by decide),if_neg (by decide),if_neg (by decide),if_neg (by decide),if_neg (by decide),if_neg (by decide),if_neg (by decide),if_pos rfl]];exact(zcb hcell).2.2.2.2.2.2.2.1 (zel 2 (by decide) hv hc)
 by_cases n8:l=zoF
 ·rw[n8,show zeS h zoF=_ by unfold zeS;rw[if_neg (by decide),if_neg (by decide),if_neg (by decide),if_neg (by decide),if_neg (by decide),if_neg (by decide),if_neg (by decide),if_neg (by decide),if_pos rfl]];exact(zcb hcell).2.2.2.2.2.2.2.2.1 (zoy hv hc)
 by_cases n9:l=zoH
 ·rw[n9,show zeS h zoH=_ by unfold zeS;rw[if_neg (by decide),if_neg (by decide),if_neg (by decide),if_neg (by decide),if_neg (by decide),if_neg (by decide),if_neg (by decide),if_neg (by decide),if_neg (by decide),if_pos rfl]];exact(zcb hcell).2.2.2.2.2.2.2.2.2.1 (zhl zBv hv hc hp)
 by_cases n10:l=zv4
 ·rw[n10,show zeS h zv4=_ by unfold zeS;rw[if_neg (by decide),if_neg (by decide),if_neg (by decide),if_neg (by decide),if_neg (by decide),if_neg (by decide),if_neg (by decide),if_neg (by decide),if_neg (by decide),if_neg (by decide),if_pos rfl]];exact(zcb hcell).2.2.2.2.2.2.2.2.2.2.1 (zhl zB8 hv hc hp)
 by_cases n11:l=zjN
 ·rw[n11,show zeS h zjN=_ by unfold zeS;rw[if_neg (by decide),if_neg (by decide),if_neg (by decide),if_neg (by decide),if_neg (by decide),if_neg (by decide),if_neg (by decide),if_neg (by decide),if_neg (by decide),if_neg (by decide),if_neg (by decide),if_pos rfl]];exact(zcb hcell).2.2.2.2.2.2.2.2.2.2.2.1 (zhl zAl hv hc hp)
 by_cases n12:l=zxn
 ·rw[n12,show zeS h zxn=_ by unfold zeS;rw[if_neg (by decide),if_neg (by decide),if_neg (by decide),if_neg (by decide),if_neg (by decide),if_neg (by decide),if_neg (by decide),if_neg (by decide),if_neg (by decide),if_neg (by decide),if_neg (by decide),if_neg (by decide),if_pos rfl]];exact(zcb hcell).2.2.2.2.2.2.2.2.2.2.2.2 (zhl zB9 hv hc hp)
 rw[show zeS h l=zAG by unfold zeS;rw[if_neg n0,if_neg n1,if_neg n2,if_neg n3,if_neg n4,if_neg n5,if_neg n6,if_neg n7,if_neg n8,if_neg n9,if_neg n10,if_neg n11,if_neg n12]];exact zA7 l hh hg.bad ⟨n0,n1,n2,n3,n4,n5,n6,n7,n8,n9,n10,n11,n12⟩
theorem zBZ{B sb:Nat}{v:Value}{h:List Op3}{w:World}(l:List UInt8)(hl:l.length<=9223372036854775807)(hs:Ses B w sb v h)(hB:B<=w.heap.size)(hc:(chk h).2=0)(hg:zgX w):Calls Tryz.prog 15 #[.pointer (some ⟨sb,0,none⟩),za2 l] w fun e w'=>zk1 B sb w (zdO h l) e w':=by
 by_cases hh:l.take 8=zfk
 ·rw[show zdO h l=zm6 h (l.drop 8)by unfold zdO;rw[if_pos hh];rfl];exact zzR l hl hs hB hh
 ·rw[show zdO h l=(zeS h l,h)by unfold zdO;rw[if_neg hh]];exact(zBo l hs hc hg hh).mono fun e w' ⟨x,y,he,hE,hb⟩=>⟨x,y,he,hE,⟨_,hs.below hb⟩,zoe hb⟩
theorem zBn:zjx (fun _=>True) zdO:=⟨fun l _ hl hs hB hc hg=>zBZ l hl hs hB hc hg,fun _ l hc=>zjp hc l,fun _ l hc=>zoL hc l⟩
end Go.Proofs.YthlhgiihngcobaaGreatDoor
namespace Go.Proofs.YthlhgiihngcobaaGreatDoor
open Go.RowKit
theorem zBV:zBG (zo8 zdO []):=fun s w hs hg=>by
 unfold zo8;by_cases h:3000<s.size
 ·rw[if_pos h];exact zwa s w h
 ·rw[if_neg h];have e:s=⟨s.data.toList.toArray⟩:=by cases s;simp
  have h2:=zu6 zBn s.data.toList w (by rw[zc9];omega) (fun _ _=>trivial) hg;unfold za2 at h2;rw[<-e]at h2;exact h2
end Go.Proofs.YthlhgiihngcobaaGreatDoor
