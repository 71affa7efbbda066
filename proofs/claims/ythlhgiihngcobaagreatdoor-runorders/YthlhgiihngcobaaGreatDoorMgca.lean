/-
  PROVED HERE: package run's Run answers a text line by line, as what is asked of its lines (LineOk) says; package run's Run answers the sessions that lanelaw3.RunOrders makes.
  Conditions: none but those that each theorem's own premises say.
-/
import Derived.Test.YthlhgiihngcobaaGreatDoorMgba
import Derived.Test.YthlhgiihngcobaaGreatDoorMgbz
import Derived.Test.YthlhgiihngcobaaGreatDoorMgav
set_option maxHeartbeats 32000000
set_option maxRecDepth 100000
namespace Go.Proofs.YthlhgiihngcobaaGreatDoor
open Go.RowKit Go.Shelf
attribute [local go_sem] Oper.semAt_some
theorem zgw{w w1:World}{B e s n:Nat}{v:Value}{xs:List Value}{row:Option Nat}(h:w.ownsRow B e s v n xs)(hg:w.grownBy w1 row)(hr:∀r,row=some r->∃o:Obj,w.heap[r]? = some o/\∀cs fr,o≠.cells cs e fr):w1.ownsRow B e s v n xs:=by
 refine h.kept hg ?_;cases hv:v.ownBlock with
 | none=>exact .inl rfl
 | some g =>refine .inr fun e=>?_;obtain⟨o,h1,h2⟩:=hr g e.symm;exact zfv h h1 h2 hv
theorem zj1{B sb:Nat}{w w1:World}{v:Value}{h:List Op3}{row:Option Nat}(hs:Ses B w sb v h)(hg:w.grownBy w1 row)(hr:∀r,row=some r->∃o:Obj,w.heap[r]? = some o/\(∀cs fr,o≠.cells cs 30 fr)/\∀cs fr,o≠.cells cs 103 fr):Ses B w1 sb v h :=⟨(hg.block sb (zaS hs.1) (fun e=>by obtain⟨o,h1,h2,_⟩:=hr sb e.symm;rw[hs.1]at h1;exact h2 _ _ (Option.some.inj h1).symm)).trans hs.1,zgw hs.2 hg fun r e=>by obtain⟨o,h1,_,h3⟩:=hr r e;exact⟨o,h1,h3⟩⟩
theorem zjn{B tb:Nat}{w:World}{bs:List Value}(h:Lib.IsBuilder 34 5 B tb bs w):∃cs,w.heap[tb]? = some (.cells cs 34 (0,0)):=by
 rcases h with⟨_,v,hv,_⟩ | ⟨_,v,hv,_⟩
 ·exact⟨_,hv⟩
 ·exact⟨_,hv⟩
theorem zd7{B tb:Nat}{w w1:World}{bs:List Value}{row:Option Nat}(h:Lib.IsBuilder 34 5 B tb bs w)(hg:w.grownBy w1 row)(hr:∀r,row=some r->∃o:Obj,w.heap[r]? = some o/\(∀cs fr,o≠.cells cs 34 fr)/\∀cs fr,o≠.cells cs 5 fr):Lib.IsBuilder 34 5 B tb bs w1/\w1.heap[tb]? = w.heap[tb]? := by
 obtain⟨cs,hcs⟩:=zjn h;have hb:w1.heap[tb]? = w.heap[tb]? := hg.block tb (zaS hcs) (fun e=>by obtain⟨o,h1,h2,_⟩:=hr tb e.symm;rw[hcs]at h1;exact h2 _ _ (Option.some.inj h1).symm);have one:∀p,Lib.BuilderAt 34 5 B tb p bs w->Lib.BuilderAt 34 5 B tb p bs w1:=by rintro p ⟨h1,v,hbk,hown,hne⟩;exact⟨h1,v,hb.trans hbk,zgw hown hg (fun r e=>by obtain⟨o,h1,_,h3⟩:=hr r e;exact⟨o,h1,h3⟩),hne⟩
 refine⟨?_,hb⟩;rcases h with h | h
 ·exact .inl (one _ h)
 ·exact .inr (one _ h)
theorem zc7{B sb:Nat}{w w1:World}{v:Value}{h:List Op3}(hs:Ses B w sb v h)(hU:za9 w w1):Ses B w1 sb v h:=by
 refine⟨hU sb _ hs.1 (fun cs fr e=>?_) (fun cs fr e=>?_),hs.2.1,?_⟩
 ·injection e with _ e2;exact absurd e2 (by decide)
 ·injection e with _ e2;exact absurd e2 (by decide)
 ·rcases hs.2.2 with hn | ⟨g,cap,cur,hv,hb,hg,rest⟩
  ·exact .inl hn
  ·refine .inr ⟨g,cap,cur,hv,hb,hU g _ hg (fun cs fr e=>?_) (fun cs fr e=>?_),rest⟩
   ·injection e with _ e2;exact absurd e2 (by decide)
   ·injection e with _ e2;exact absurd e2 (by decide)
theorem zi4{sb:Nat}{w w1:World}{cs:Array Value}{T:TypeId}{fr:Nat × Nat}(h:ziz sb w w1)(hs:w.heap[sb]? = some (.cells cs T fr)):KeepsOthers w w1 :=⟨h.size,fun k o hk ho=>(h.block k (zaS hk) (fun e=>by rw[e,hs]at hk;rw[<-Option.some.inj hk]at ho;cases ho)).trans hk⟩
theorem zcm{B:Nat}{w w1:World}(h:za9 w w1)(hb:Below B w w1):KeepsOthers w w1 :=⟨hb.size,fun k o hk ho=>h k o hk (fun cs fr e=>by rw[e]at ho;cases ho) (fun cs fr e=>by rw[e]at ho;cases ho)⟩
theorem zmR{S:Type}(f:S->List UInt8->List UInt8 × S)(h:S)(a b:List (List UInt8)):stL f h (a++b)=stL f (stL f h a) b:=by
 induction a generalizing h with
 | nil=>rfl
 | cons l r ih=>exact ih _
theorem zlF{P:List UInt8->Prop}{f:List Op3->List UInt8->List UInt8 × List Op3}(hF:zeW P f)(ls:List (List UInt8)):∀h,(chk h).2=0->(chk (stL f h ls)).2=0:=by
 induction ls with
 | nil=>intro h hc;exact hc
 | cons l r ih=>intro h hc;exact ih _ (hF.right h l hc)
theorem zls{P:List UInt8->Prop}{f:List Op3->List UInt8->List UInt8 × List Op3}(hF:zeW P f)(ls:List (List UInt8)):∀h,(chk h).2=0->(zdL f h ls).length<=ls.length*1000001:=by
 induction ls with
 | nil=>intro h _;exact Nat.zero_le _
 | cons l r ih =>intro h hc;have h1:=ih _ (hF.right h l hc);have h2:=hF.len h l hc;show((f h l).1++10::zdL f (f h l).2 r).length<=_;rw[List.length_append,List.length_cons,List.length_cons,Nat.succ_mul];omega
theorem zhC(f:List Op3->List UInt8->List UInt8 × List Op3)(ls:List (List UInt8))(x:List UInt8):zdL f [] (ls++[x])=zdL f [] ls++(f (stL f [] ls) x).1++[10]:=by rw[zlq];simp[zdL]
def zmf(w:World)(h:List Op3)(t:List UInt8)(W:World):Prop:=(∃v,Ses w.heap.size W w.heap.size v h)/\Lib.IsBuilder 34 5 w.heap.size (w.heap.size+1) (Lib.byteCells t) W
def znE{P:List UInt8->Prop}(f:List Op3->List UInt8->List UInt8 × List Op3)(w:World)(pre:List (Ln P))(W:World):Prop:=(zmf w (stL f [] (pre.map (·.1))) (zdL f [] (pre.map (·.1))) W/\(zdL f [] (pre.map (·.1))=[]->W.heap[w.heap.size+1]? = some (.cells #[.pointer none,.slice none 0 0] 34 (0,0))))/\Below w.heap.size w W
theorem zlC{P:List UInt8->Prop}(f:List Op3->List UInt8->List UInt8 × List Op3)(w:World)(B:Nat)(hB:w.heap.size<=B):OwnFrom B (znE (P:=P) f w):=by
 intro pre W W1 row ⟨⟨⟨⟨v,hs⟩,hb⟩,hf⟩,hbel⟩ hg hr;have hr':∀r,row=some r->∃o:Obj,W.heap[r]? = some o/\∀cs T fr,o≠.cells cs T fr:=fun r e=>by obtain⟨_,o,h1,h2⟩:=hr r e;exact⟨o,h1,fun cs T fr e=>by rw[e]at h2;cases h2⟩
 obtain⟨h1,h2⟩:=zd7 hb hg fun r e=>by obtain⟨o,h1,h2⟩:=hr' r e;exact⟨o,h1,fun cs fr=>h2 cs _ fr,fun cs fr=>h2 cs _ fr⟩
 exact⟨⟨⟨⟨v,zj1 hs hg fun r e=>by obtain⟨o,h1,h2⟩:=hr' r e;exact⟨o,h1,fun cs fr=>h2 cs _ fr,fun cs fr=>h2 cs _ fr⟩⟩,h1⟩,fun e=>h2.trans (hf e)⟩,hbel.grown hg hbel.size fun k e=>Nat.le_trans hB (hr k e).1⟩
def zco(w W W1:World):Prop:=KeepsOthers W W1/\Below w.heap.size W W1
theorem zco.trans{w A B C:World}(h:zco w A B)(k:zco w B C):zco w A C:=⟨h.1.trans k.1,h.2.trans k.2⟩
theorem zmT{P:List UInt8->Prop}{f:List Op3->List UInt8->List UInt8 × List Op3}(hF:zeW P f){w W:World}{h:List Op3}{t:List UInt8}(x:Ln P)(hJ:zmf w h t W)(hz:w.heap.size<=W.heap.size)(hsb:1<w.heap.size)(hc:(chk h).2=0)(hg:zdK W):Calls Tryz.prog 9 #[.pointer (some ⟨w.heap.size,0,none⟩),zay x.1] W fun e w1=>e=.returned (zay (f h x.1).1)/\zmf w (f h x.1).2 t w1/\zco w W w1:=by
 obtain⟨⟨v,hs⟩,hb⟩:=hJ;refine(zjT hF x.1 x.2.2 (Nat.le_trans x.2.1 (by decide)) hs hz hsb hc hg).mono ?_;rintro e w1 ⟨rfl,hs1,hT⟩;obtain⟨h1,-⟩:=zd7 hb (row:=some w.heap.size) ⟨hT.os,hT.tape,hT.output,hT.size,fun k hk hne=>hT.block k hk fun e=>hne (by rw[e])⟩ fun r e=>by cases e;exact⟨_,hs.1,fun cs fr e=>(by injection e with _ e2;exact absurd e2 (by decide)),fun cs fr e=>(by injection e with _ e2;exact absurd e2 (by decide))⟩
 exact⟨rfl,⟨hs1,h1⟩,zi4 hT hs.1,hT.below (Nat.le_refl _) hz⟩
theorem zmP{w W:World}{h:List Op3}{t:List UInt8}(a:List UInt8)(hJ:zmf w h t W)(hz:w.heap.size<=W.heap.size)(hl:t.length+a.length<=140737488355328):Calls Tryz.prog 8 #[.pointer (some ⟨w.heap.size+1,0,none⟩),zay a] W fun e w1=>(∃n,e=.returned (.tuple #[.int .i64 n,.nilIface]))/\zmf w h (t++a) w1/\zco w W w1:=by obtain⟨⟨v,hs⟩,hb⟩:=hJ;refine(zfC w.heap.size (w.heap.size+1) (Lib.byteCells t) ⟨a.toArray⟩ W hb (by rw[Lib.byteCells_length];show t.length+a.toArray.size<=_;rw[List.size_toArray];exact hl) hz).mono ?_;rintro e w1 ⟨rfl,hb1,hbel,hU⟩;refine⟨⟨_,rfl⟩,⟨⟨v,zc7 hs hU⟩,.inr ?_⟩,zcm hU hbel,hbel⟩;rw[zbY,<-zgM];exact hb1
theorem znu{w W:World}{h:List Op3}{t:List UInt8}(hJ:zmf w h t W)(hz:w.heap.size<=W.heap.size)(hl:t.length+1<=140737488355328):Calls Tryz.prog 10 #[.pointer (some ⟨w.heap.size+1,0,none⟩),.int .u8 10] W fun e w1=>e=.returned .nilIface/\zmf w h (t++[10]) w1/\zco w W w1:=by obtain⟨⟨v,hs⟩,hb⟩:=hJ;refine(zgX w.heap.size (w.heap.size+1) (Lib.byteCells t) 10 W hb (by rw[Lib.byteCells_length];exact hl) hz).mono ?_;rintro e w1 ⟨rfl,hb1,hbel,hU⟩;refine⟨rfl,⟨⟨v,zc7 hs hU⟩,.inr ?_⟩,zcm hU hbel,hbel⟩;rw[zbY];exact hb1
theorem zlS{P:List UInt8->Prop}{f:List Op3->List UInt8->List UInt8 × List Op3}{w W:World}{pre:List (Ln P)}(hI:znE f w pre W):Calls Tryz.prog 11 #[.pointer (some ⟨w.heap.size+1,0,none⟩)] W fun e w1=>e=.returned (zay (zdL f [] (pre.map (·.1))))/\Below w.heap.size W w1/\za9 W w1:=by
 by_cases h:zdL f [] (pre.map (·.1))=[]
 ·rw[h];exact zgC _ _ _ _ (hI.1.2 h)
 ·exact zfr _ _ _ _ hI.1.1.2 h
theorem zg6{P:List UInt8->Prop}(n:Nat)(hn:1<=n)(Bs n₀:Nat)(s:List UInt8)(hs:s.length<=3000)(hp:∀l∈linesT [] s,P l)(w:World)(hBs:Bs<w.heap.size)(hc:w.cell? ⟨Bs,0,none⟩=some (zay s)):SeqStopsK Fence.wide n Tryz.prog 12 #[.pointer (some ⟨Bs,0,none⟩)] (fun x:Ln P=>#[zay x.1]) (Below n₀) (fun ys=>ys.map (·.1)=linesT [] s) (fun _=>True) (linesT [] s).length w:=fun l J Jx W hW hJ _ hY h0 =>zjm n hn l Bs n₀ s hs hp J Jx (fun pre W h=>hJ pre W W.drew none h (zik W) (fun r e=>by cases e)) hY W ((hW.cell (p:=⟨Bs,0,none⟩) hBs).trans hc) h0
theorem zkn{P:List UInt8->Prop}{f:List Op3->List UInt8->List UInt8 × List Op3}(hF:zeW P f)(s:List UInt8)(w:World)(hs:s.length<=3000)(hp:∀l∈linesT [] s,P l)(hg:zdK w):Calls Tryz.prog 5 #[zay s] w fun e w'=>e=.returned (zay (zdL f [] (linesT [] s)))/\Below w.heap.size w w':=by
 have hL:=ziY [] s;have HL:Hid ((linesT [] s).length<=3001):=by show _<=_;omega
 have hsz:(⟨s.toArray⟩:ByteArray).size=s.length:=by show s.toArray.size=_;rw[List.size_toArray]
 have hn:¬(3000:Int)<((⟨s.toArray⟩:ByteArray).size:Int):=by rw[hsz];omega
 have hsb:1<w.heap.size:=hg.et.lt;have HG:=zaf hg;have HFF:=zaf hF;have HPP:=zaf hp;have HS:=zaf hs;have HSB:=zaf hsb;clear hL hsz hs hg hsb hF hp;refine(callsIn_wide (n:=5)).1 ?_;refine callsIn_of_wp_marks Tryz.func5 rfl trivial ?_ rfl;simp only[Tryz.ntmps5,List.size_toArray,List.length_cons,List.length_nil,Nat.reduceAdd,Nat.reduceSub,Array.replicate_succ,Array.replicate_zero,List.push_toArray,List.append_toArray,List.nil_append,List.cons_append];gi_wp2_with (refine⟨trivial,?_⟩;gi_at_call 7;refine(callsIn_wide.2 (zly s _)).mono ?_;rintro e w1 ⟨rfl,rfl⟩);have hB0:Below w.heap.size w (((w.alloc (.cells #[.slice none 0 0] 30)).alloc (.cells #[.pointer none,.slice none 0 0] 34)).alloc (.cells #[zay s] 9)):=(((Below.refl _ w).alloc (Nat.le_refl _) _).alloc (by simp) _).alloc (by simp;omega) _;have hs0:(((w.alloc (.cells #[.slice none 0 0] 30)).alloc (.cells #[.pointer none,.slice none 0 0] 34)).alloc (.cells #[zay s] 9)).heap[w.heap.size]? = some (.cells #[.slice none 0 0] 30 (0,0)) :=(Below.heap_alloc _ _ _ (by simp;omega)).trans ((Below.heap_alloc _ _ _ (by simp)).trans (World.alloc_heap_new w _))
 have ht0:(((w.alloc (.cells #[.slice none 0 0] 30)).alloc (.cells #[.pointer none,.slice none 0 0] 34)).alloc (.cells #[zay s] 9)).heap[w.heap.size+1]? = some (.cells #[.pointer none,.slice none 0 0] 34 (0,0)):=by
  refine(Below.heap_alloc _ _ _ (by simp)).trans ?_;have:=World.alloc_heap_new (w.alloc (.cells #[.slice none 0 0] 30)) (.cells #[.pointer none,.slice none 0 0] 34)
  rwa [World.size_alloc]at this
 have hI0:znE (P:=P) f w [] (((w.alloc (.cells #[.slice none 0 0] 30)).alloc (.cells #[.pointer none,.slice none 0 0] 34)).alloc (.cells #[zay s] 9)) :=⟨⟨⟨⟨_,hs0,World.ownsRow_nil _ _ _ _⟩,.inl ⟨by omega,_,ht0,World.ownsRow_nil _ _ _ _,by simp[Value.ownBlock]⟩⟩,fun _=>ht0⟩,hB0⟩
 refine wpIn_rangeFunc_ownF rfl (by omega) (gf:=12) (lb:=#[.pointer (some ⟨w.heap.size+1+1,0,none⟩)]) rfl trivial (enters_of Tryz.func12 (by kernel_rfl) rfl)
  (zg6 _ (by omega) (w.heap.size+1+1) w.heap.size s HS.out HPP.out _ (by simp) (by rw[World.cell?_alloc_at _ _ _ _ (by simp)];rfl)) belowK_t (belowK_b (by simp;omega)) (Below.refl _ _) (fun _=>rfl)
  (znE f w) (fun _ _ _=>False) (zlC f w _ (by simp;omega)) (fun _ _ _ _ _ hs _ _=>hs) hI0
  (fun x=>{ tmps:=#[zay s,undef,.string ⟨#[]⟩,.pointer (some ⟨w.heap.size,0,none⟩),.pointer (some ⟨w.heap.size+1,0,none⟩),zay x.1,zay s,.int .i64 (s.length:Int),.bool (decide ((3000:Int)<(s.length:Int))),zay s,.func (.func 12) #[] #[.pointer (some ⟨w.heap.size+1+1,0,none⟩)],zay x.1,undef,undef,undef,undef,undef],defers:=[] }) ?assign ?body ?done ?stop
 case assign =>intro l x W K hK;gi_wp2;exact hK
 case body =>
  rintro l pre x W hI hlt;have hB:=hI.2;have hc:=zlF HFF.out (pre.map (·.1)) [] rfl;have HA:=zaf (zmT HFF.out x hI.1.1 hB.size HSB.out hc (HG.out.below hB));have hlen:=zls HFF.out (pre.map (·.1)) [] rfl;rw[List.length_map]at hlen;have hl3:=HL.out;have hll:=HFF.out.len _ x.1 hc;have HLB:Hid ((zdL f [] (pre.map (·.1))).length+(f (stL f [] (pre.map (·.1))) x.1).1.length+1<=140737488355328):=by show _<=_;omega
  have HF:Hid (∀W1,zmf w (f (stL f [] (pre.map (·.1))) x.1).2 (zdL f [] (pre.map (·.1))++(f (stL f [] (pre.map (·.1))) x.1).1++[10]) W1->zco w W W1->KeepsOthers W W1/\Below w.heap.size W W1/\znE f w (pre++[x]) W1):=fun W1 hJ hk=>by
   refine⟨hk.1,hk.2,⟨?_,fun e=>?_⟩,hB.trans hk.2⟩
   ·rw[List.map_append,zmR,List.map_cons,List.map_nil,zhC f];exact hJ
   ·rw[List.map_append,List.map_cons,List.map_nil,zhC f]at e;simp at e
  have HZ:=zaf hB.size;obtain⟨r,hr⟩:∃r,f (stL f [] (pre.map (·.1))) x.1=r:=⟨_,rfl⟩;obtain⟨t,ht⟩:∃t,zdL f [] (pre.map (·.1))=t:=⟨_,rfl⟩;rw[hr,ht]at HA HF HLB;clear hI hlt hB hc hlen hl3 hll hr ht;gi_wp2_with (first | (refine⟨trivial,?_⟩;gi_at_call 9;refine(CallsIn.inRound l (callsIn_wide.2 HA.out)).mono ?_;rintro e w1 ⟨rfl,hJ1,hk1⟩;have HB:=zaf (zmP r.1 hJ1 (Nat.le_trans HZ.out hk1.2.size) (by have:=HLB.out;omega));have HK1:=zaf hk1;clear hJ1 hk1) | (refine⟨trivial,?_⟩;gi_at_call 8;refine(CallsIn.inRound l (callsIn_wide.2 HB.out)).mono ?_;rintro e w2 ⟨⟨n,rfl⟩,hJ2,hk2⟩;have HK2:=zaf (HK1.out.trans hk2);have HC:=zaf (znu hJ2 (Nat.le_trans HZ.out HK2.out.2.size) (by have:=HLB.out;rw[List.length_append];omega));clear hJ2 hk2) | (refine⟨trivial,?_⟩;gi_at_call 10;refine(CallsIn.inRound l (callsIn_wide.2 HC.out)).mono ?_;rintro e w3 ⟨rfl,hJ3,hk3⟩));exact HF.out _ hJ3 (HK2.out.trans hk3)
 case done =>
  rintro D ys W hD hS hI hK;have HT:=zaf (zlS hI);rw[hS]at HT;have HB:=zaf hI.2;have hz0:w.heap.size<=D:=by simp at hD;omega
  clear hI hS;gi_wp2_with (refine⟨trivial,?_⟩;gi_at_call 11;refine(callsIn_wide.2 HT.out).mono ?_;rintro e w1 ⟨rfl,hb1,hU1⟩);have hK1:w1.heap[D]? = some (.deferred (some [])):=hU1 D _ hK (fun _ _ e=>by cases e) (fun _ _ e=>by cases e);refine⟨by simp,.inl ⟨_,_,rfl,run_takeDeferred hK1,?_⟩⟩;exact⟨_,results_tmp rfl _ _ _,rfl,(HB.out.trans hb1).trans (belowK_b (w:=w) (Nat.le_refl _) w1 D _ _ hz0 hK1 rfl rfl)⟩
 case stop =>rintro D c pre W _ _ h _;exact h.elim
end Go.Proofs.YthlhgiihngcobaaGreatDoor
namespace Go.Proofs.YthlhgiihngcobaaGreatDoor
open Go.RowKit
def zbG(h:List Op3)(l:List UInt8):List UInt8 × List Op3 :=if l.take 8=zbb then zdj h (l.drop 8)else if l=zc3 then(ze2 (za4 (doneL h)) 8,h)else if l=zfB then(ze2 (zdq (doneL h)) 5,h)else if l=zc9 then(zfd [(zlN,zi6 h),(zl7,ziR h),(zk8,ziG h),(zlh,zg8 h)],h)else([],h)
def znC(l:List UInt8):Prop:=l.take 8=zbb\/l=zc3\/l=zfB\/l=zc9
theorem zg2{h:List Op3}(hc:(chk h).2=0)(l:List UInt8):(chk (zdj h l).2).2=0:=by
 unfold zdj;split
 ·exact hc
 ·rename_i ds _;split
  ·exact hc
  ·rename_i h1;have h2:(chk (ds.take 41)).2=0:=by simpa using h1
   have h3:=zmK h2;rw[h3]at h2;exact h2
theorem zjH(h:List Op3)(l:List UInt8):(zdj h l).1.length<=1000000:=by
 unfold zdj;split
 ·have:=zex 2;show(zdp 2).length<=_;omega
 ·rename_i ds _;split
  ·have:=zex (chk (ds.take 41)).2;show(zdp _).length<=_;omega
  ·show zny.length<=_;decide
theorem zkE(h:List Op3):(zfd [(zlN,zi6 h),(zl7,ziR h),(zk8,ziG h),(zlh,zg8 h)]).length<=100:=by
 refine ziF _ (Nat.le_refl _) fun x hx=>?_;simp only[List.mem_cons,List.not_mem_nil,or_false]at hx;rcases hx with rfl | rfl | rfl | rfl
 ·show zlN.length<=20;decide
 ·show zl7.length<=20;decide
 ·show zk8.length<=20;decide
 ·show zlh.length<=20;decide
theorem zhf(h:List Op3)(l:List UInt8)(hc:(chk h).2=0):(chk (zbG h l).2).2=0:=by
 unfold zbG;split
 ·exact zg2 hc _
 ·repeat' split
  all_goals exact hc
theorem zkH(h:List Op3)(l:List UInt8)(hc:(chk h).2=0):(zbG h l).1.length<=1000000:=by
 unfold zbG;split
 ·exact zjH h _
 ·split
  ·exact Nat.le_trans (ze0 fun r hr=>zmG hc hr) (by decide)
  ·split
   ·exact Nat.le_trans (ze0 fun r hr=>zhF hr) (by decide)
   ·split
    ·exact Nat.le_trans (zkE h) (by decide)
    ·exact Nat.zero_le _
theorem zn8{B sb:Nat}{v:Value}{h:List Op3}{w:World}(l:List UInt8)(h4:znC l)(hl:l.length<=9223372036854775807)(hs:Ses B w sb v h)(hB:B<=w.heap.size)(hc:(chk h).2=0)(hg:zdK w):Calls Tryz.prog 15 #[.pointer (some ⟨sb,0,none⟩),zay l] w fun e w'=>zfF B sb w (zbG h l) e w':=by
 have hE:∀(t:List UInt8) (e:Ending) (w':World),zmF w' w t e->zfF B sb w (t,h) e w':=fun t e w' ⟨x,y,he,hE,hb⟩=>⟨x,y,he,hE,⟨_,hs.below hb⟩,zg4 hb⟩;by_cases hh:l.take 8=zbb
 ·rw[show zbG h l=zdj h (l.drop 8)by unfold zbG;rw[if_pos hh]];exact zng l hl hs hB hh
 ·obtain⟨hv,hcell,ad,cap,rfl,hcap⟩:=znt hs;rcases h4 with h4 | h4 | h4 | h4
  ·exact absurd h4 hh
  ·rw[h4,show zbG h zc3=_ by unfold zbG;rw[if_neg (by decide),if_pos rfl]];exact((zg5 hcell).1 (zjM hv hc hg.pow)).mono fun e w' hd=>hE _ e w' hd
  ·rw[h4,show zbG h zfB=_ by unfold zbG;rw[if_neg (by decide),if_neg (by decide),if_pos rfl]];exact((zg5 hcell).2.1 (zk7 hv hc hg.pow)).mono fun e w' hd=>hE _ e w' hd
  ·rw[h4,show zbG h zc9=_ by unfold zbG;rw[if_neg (by decide),if_neg (by decide),if_neg (by decide),if_pos rfl]];exact((zg5 hcell).2.2.1 (zkT hv hcap hc)).mono fun e w' hd=>hE _ e w' hd
theorem zmU:zeW znC zbG:=⟨fun l h4 hl hs hB hc hg=>zn8 l h4 hl hs hB hc hg,zhf,zkH⟩
theorem zoi:zmo zbG where
 hist:=fun h t ds hp hc=>by
  have h1:(zbb++t).take 8=zbb:=by simp[zbb]
  have h2:(zbb++t).drop 8=t:=by simp[zbb]
  have h3:ds.take 41=ds:=List.take_of_length_le (by have:=zaN hc;omega);unfold zbG zdj;rw[if_pos h1,h2,hp];simp only;rw[h3,if_neg (by simpa using hc)]
 order:=fun h o hc ho _=>by unfold zbG;rw[if_neg (by decide),if_pos rfl,ho];rfl
 view:=fun h o hc ho _=>by unfold zbG;rw[if_neg (by decide),if_neg (by decide),if_pos rfl,ho];rfl
 faces:=fun h hc h1 h2 h3 h4=>by unfold zbG;rw[if_neg (by decide),if_neg (by decide),if_neg (by decide),if_pos rfl,h1,h2,h3,h4];rfl
theorem zoA(o:List Int)(W:World)(ho:zdb o)(hg:zdK W):Calls Tryz.prog 5 #[.string (zbu (zcc o).1)] W fun e w'=>e=.returned (.string (zog zbG [] (zbu (zcc o).1)))/\Below W.heap.size W w':=by
 have hz:=zec ho;unfold zog;rw[if_neg hz];obtain⟨s,hs⟩:∃s,zbu (zcc o).1=s:=⟨_,rfl⟩;have hL:=zgn ho;rw[hs]at hz hL ⊢;have e:s=⟨s.data.toList.toArray⟩:=by cases s;simp
 have h2:=zkn zmU s.data.toList W (by rw[zjd];omega) (fun l hl=>by
  rw[hL]at hl;simp only[List.mem_cons,List.not_mem_nil,or_false]at hl;rcases hl with rfl | rfl | rfl | rfl
  ·exact .inl (by simp[zbb])
  ·exact .inr (.inl rfl)
  ·exact .inr (.inr (.inl rfl))
  ·exact .inr (.inr (.inr rfl))) hg
 unfold zay at h2;rw[<-e]at h2;exact h2
end Go.Proofs.YthlhgiihngcobaaGreatDoor
