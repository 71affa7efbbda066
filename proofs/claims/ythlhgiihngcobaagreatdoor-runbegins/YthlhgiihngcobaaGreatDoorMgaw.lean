/-
  PROVED HERE: odds.Edges gives, of a right list, the edges between deals that commit, each once, in order; slices.IndexFunc and slices.ContainsFunc over a slice of edges, for the two closures that package graph hands; slices.Index and slices.Contains on a row of bools; graph.Order gives the order that the plain function of the text GraphPlain2 makes of right edges, ErrCycle.
  Conditions: none but those that each theorem's own premises say.
-/
import Derived.Test.YthlhgiihngcobaaGreatDoorMgav
import Derived.Test.YthlhgiihngcobaaGreatDoorMgah
import Derived.Test.YthlhgiihngcobaaGreatDoorMgaj
import Derived.Test.YthlhgiihngcobaaGreatDoorMgam
import Derived.Deep.Onto
import Derived.Maps.AppendAt
set_option maxHeartbeats 32000000
set_option maxRecDepth 100000
namespace Go.Proofs.YthlhgiihngcobaaGreatDoor
open Go.RowKit
def zhT(w:World):Value->Int
 | .pointer (some a)=>intOf ((w.cell? a).getD undef)
 | _=>0
def zbD(w:World)(c:Nat)(x:Int):Prop:=w.heap[c]? = some (.cells #[.int .i64 x] 3)
theorem zbD.cell{w:World}{c:Nat}{x:Int}(h:zbD w c x):w.cell? ⟨c,0,none⟩=some (.int .i64 x):=by rw[cell_of_row w c 0 _ _ (0,0) h];rfl
theorem zbD.lt{w:World}{c:Nat}{x:Int}(h:zbD w c x):c<w.heap.size:=(Array.getElem?_eq_some_iff.1 h).1
theorem zbD.below{w w':World}{c B:Nat}{x:Int}(h:zbD w c x)(hb:Below B w w')(hc:c<B):zbD w' c x:=(hb.block c hc).trans h
theorem zbD.alloc{w:World}{c:Nat}{x:Int}(h:zbD w c x)(o:Obj):zbD (w.alloc o) c x:=h.below ((Below.refl _ w).alloc (Nat.le_refl _) o) h.lt
theorem zdd(w:World)(x:Int):zbD (w.alloc (.cells #[.int .i64 x] 3)) w.heap.size x:=heap_alloc_new w _
theorem zbD.grown{w w':World}{c base n:Nat}{x:Int}{v:Value}{xs:List Value}(h:zbD w c x)(ho:w.ownsRow base 131 2 v n xs)(hg:w.grownBy w' v.ownBlock):zbD w' c x:=by
 refine(hg.block c h.lt ?_).trans h;intro he;obtain⟨_,⟨hv,_⟩ | ⟨g,cap,cur,hv,hb,hgg,_⟩⟩:=ho
 ·rw[hv]at he;simp[Value.ownBlock]at he
 ·rw[hv]at he;simp[Value.ownBlock]at he;subst he;unfold zbD at h;rw[hgg]at h;simp at h
theorem zhc{w w':World}{base e s n:Nat}{v:Value}{xs:List Value}(h:w.ownsRow base e s v n xs)(hb:Below w.heap.size w w'):w'.ownsRow base e s v n xs :=h.kept (row:=none) ⟨hb.os,hb.tape,hb.output,hb.size,fun k hk _=>hb.block k hk⟩ (by cases v.ownBlock <;> simp)
theorem zp8(d:List Op3)(dv:Value)(c1 c2 c3 i j:Nat)(f t:Int)(w:World)(hI:zai w dv d)(hl:d.length<=40)(h1:w.cell? ⟨c1,0,none⟩=some dv)(h2:w.cell? ⟨c2,0,none⟩=some (.int .i64 f))(h3:w.cell? ⟨c3,0,none⟩=some (.int .i64 t))(hi:i<d.length)(hj:j<d.length):Calls Tryz.prog 111 #[.agg #[.int .i64 i,.int .i64 j],.pointer (some ⟨c1,0,none⟩),.pointer (some ⟨c2,0,none⟩),.pointer (some ⟨c3,0,none⟩)] w fun e w'=>e=.returned (.bool (zfq d (i,j) == (f,t)))/\Below w.heap.size w w':=by
 have b1:=World.block_lt_of_cell? w _ h1;have b2:=World.block_lt_of_cell? w _ h2;have b3:=World.block_lt_of_cell? w _ h3;simp only at b1 b2 b3;obtain⟨ad,b,off,cap,rfl,ha,_,hbB,hops⟩:=hI;obtain rfl:=ha (by omega);have c0:=(hops i hi).1;have d0:=(hops j hj).1;have bb:=World.block_lt_of_cell? w _ c0;simp only at bb;obtain⟨x,hx⟩:∃x,(opAt d i).1=x:=⟨_,rfl⟩;obtain⟨y,hy⟩:∃y,(opAt d j).1=y:=⟨_,rfl⟩;rw[show(d.getD i (0,0,0)).1=x from hx]at c0;rw[show(d.getD j (0,0,0)).1=y from hy]at d0
 have HE:Hid ((zfq d (i,j) == (f,t))=(x == f && y == t)):=by
  show(zfq d (i,j) == (f,t))=(x == f && y == t);have:zfq d (i,j)=(x,y):=by simp[zfq,hx,hy]
  rw[this];rfl
 clear ha hbB hops hx hy;go_enter Tryz.func111,Tryz.ntmps111;by_cases hq:x=f
 ·subst hq;go_wp2_with fail;go_quiet (fail);go_wp2;all_goals go_ret
  all_goals exact⟨ret_bool (by rw[HE.out];simp_all),below_drewN ((Below.refl _ w).alloc (Nat.le_refl _) _) _⟩
 ·have hq':(x == f)=false:=by simpa using hq
  clear hq;go_wp2_with fail;go_quiet (fail);go_wp2;all_goals go_ret
  all_goals exact⟨ret_bool (by rw[HE.out,hq'];rfl),below_drewN ((Below.refl _ w).alloc (Nat.le_refl _) _) _⟩
theorem zwQ(l:List Op3)(v:Value)(w:World)(h:zai w v l)(hc:(chk l).2=0):Calls Tryz.prog 45 #[v] w fun e w'=>∃v',e=.returned (.tuple #[v',.nilIface])/\zaj w' v' (zaF (doneL l) 36)/\Below w.heap.size w w':=by
 go_enter Tryz.func45,Tryz.ntmps45;go_wp2_with fail;refine(done_ok l _ _ h hc).mono ?_;rintro e w1 ⟨v1,rfl,hI1,hb1⟩;have hl:(doneL l).length<=40:=Nat.le_trans (List.length_filter_le ..) (zaQ hc);obtain⟨d,hd⟩:∃d,doneL l=d:=⟨_,rfl⟩;have HD:Hid (doneL l=d):=hd;rw[hd]at hI1 hl;clear hd;have hs1:=hb1.size;have HI1:Hid (∃ad n c,v1=.slice ad n c):=by obtain⟨ad,b,off,cap,rfl,_⟩:=hI1;exact⟨_,_,_,rfl⟩
 obtain⟨ad1,n1,cap1,rfl⟩:=HI1.out;clear HI1;go_wp2_with fail;have hA:Below w1.heap.size w1 (w1.alloc (.cells #[.slice ad1 n1 cap1] 28)):=(Below.refl _ w1).alloc (Nat.le_refl _) _;refine(zma d _ _ (hI1.below hA (Nat.le_refl _)) hl).mono ?_;rintro e w2 ⟨v2,rfl,hE2,hb2⟩;have hI2:=(hI1.below hA (Nat.le_refl _)).below hb2 (Nat.le_refl _);have hc2:w2.cell? ⟨w1.heap.size,0,none⟩=some (.slice ad1 n1 cap1):=by rw[hb2.cell (p:=⟨w1.heap.size,0,none⟩) (by simp)];simp
 have hb02:Below w.heap.size w w2:=(hb1.trans (hA.mono hs1)).trans (hb2.mono (by simp;omega));have hlt2:w1.heap.size<w2.heap.size:=by have:=hb2.size;simp at this;omega
 clear hA hb2 hI1 hb1;obtain⟨c1,hc1⟩:∃c,c=w1.heap.size:=⟨_,rfl⟩;rw[<-hc1]at hc2 hlt2 ⊢;clear hc1
 -- what the closure answers,wherever it is asked
 have HP:Hid (∀(c2 c3:Nat) (f t:Int) (W:World),Below w2.heap.size w2 W->W.cell? ⟨c2,0,none⟩=some (.int .i64 f)->W.cell? ⟨c3,0,none⟩=some (.int .i64 t) ->
   Calls Tryz.prog 72 #[v2,.func (.func 111) #[] #[.pointer (some ⟨c1,0,none⟩),.pointer (some ⟨c2,0,none⟩),.pointer (some ⟨c3,0,none⟩)]] W fun r w'=>r=.returned (.bool (zhH d (f,t)))/\Below W.heap.size W w'):=by
  intro c2 c3 f t W hW h2 h3;refine contains_edges (pairsL d) v2 (fun p=>zfq d p == (f,t)) _ _ _ W (hE2.below hW (Nat.le_refl _)) (by have:=zex d hl;omega) ?_;intro W' hW' e he;obtain⟨i,j,hij,hj,_,rfl⟩:=zbv.1 he;have l2:=World.block_lt_of_cell? W _ h2;have l3:=World.block_lt_of_cell? W _ h3;have hWW:Below w2.heap.size w2 W':=hW.trans (hW'.mono hW.size);exact zp8 d _ c1 c2 c3 i j f t W' (hI2.below hWW (Nat.le_refl _)) hl ((hWW.cell (p:=⟨c1,0,none⟩) hlt2).trans hc2) ((hW'.cell (p:=⟨c2,0,none⟩) l2).trans h2) ((hW'.cell (p:=⟨c3,0,none⟩) l3).trans h3) (by omega) hj
 clear hI2 hc2 hE2;obtain⟨i0,hi,hz0,hs0,hy0⟩:=info_parts zg9;have HI:Hid (Tryz.prog.info? 131=some i0/\i0.zero=some (.agg #[.int .i64 0,.int .i64 0])/\i0.size=2/\i0.bytes=16):=⟨hi,hz0,hs0,hy0⟩;clear hi hz0 hs0 hy0;go_wp2_with fail
 go_loopw [7,8] (fun v7 v8 wr=>∃(i c:Nat),i<=6/\v8=.pointer (some ⟨c,0,none⟩)/\zbD wr c ((i:Int)+1)/\wr.ownsRow w2.heap.size 131 2 v7 (zaF d (6*i)).length (flatE (zaF d (6*i)))/\Below w2.heap.size w2 wr) (fun _ v8 wr=>7-(zhT wr v8).toNat)
 case atStart=>exact⟨0,_,by omega,rfl,by simpa using zdd w2 1,World.ownsRow_nil _ _ _ _,(Below.refl _ w2).alloc (Nat.le_refl _) _⟩
 case round =>
  obtain⟨i,c,hi,rfl,hbox,hown,hbel⟩:=hrel;have hcell:=hbox.cell;have HCELL0:Hid (wr.cell? ⟨c,0,none⟩=some (.int .i64 ((i:Int)+1))):=hcell;have hcl:=hbox.lt;have HBOX:Hid (zbD wr c ((i:Int)+1)):=hbox;have HOWN:Hid (wr.ownsRow w2.heap.size 131 2 u7 (zaF d (6*i)).length (flatE (zaF d (6*i)))):=hown;clear hbox hown;by_cases hi6:i<6
  ·have hi6':(i:Int)+1<=6:=by omega
   go_wp2_with fail
   go_loopw [7,9] (fun v7 v9 wi=>∃(j c3:Nat),j<=6/\v9=.pointer (some ⟨c3,0,none⟩)/\zbD wi c3 ((j:Int)+1)/\zbD wi c ((i:Int)+1)/\wi.ownsRow w2.heap.size 131 2 v7 (zaF d (6*i+j)).length (flatE (zaF d (6*i+j)))/\Below w2.heap.size w2 wi) (fun _ v9 wi=>7-(zhT wi v9).toNat)
   case atStart=>exact⟨0,_,by omega,rfl,by simpa using zdd wr 1,HBOX.out.alloc _,HOWN.out.alloc _,hbel.alloc hbel.size _⟩
   case round =>
    clear HOWN HBOX hcell hcl hbel;obtain⟨j,c3,hj,rfl,hbox3,hbox,hown,hbel⟩:=hrel;have hcell:=hbox.cell;have hcell3:=hbox3.cell;have hcl:=hbox.lt;have hcl3:=hbox3.lt;have hsz:=hbel.size;by_cases hj6:j<6
    ·have hj6':(j:Int)+1<=6:=by omega
     have hkl:=zh4 d (6*i+j);obtain⟨n,hn⟩:∃n,(zaF d (6*i+j)).length=n:=⟨_,rfl⟩;have HN:Hid ((zaF d (6*i+j)).length=n):=hn;rw[hn]at hown hkl;have HOWN:Hid (wr.ownsRow w2.heap.size 131 2 u7 n (flatE (zaF d (6*i+j)))):=hown;have HBOX:Hid (zbD wr c ((i:Int)+1)):=hbox;have HBOX3:Hid (zbD wr c3 ((j:Int)+1)):=hbox3;have HCON:=HP.out c c3 _ _ wr hbel hcell hcell3;clear hown hn hbox hbox3;cases hq:zhH d ((i:Int)+1,(j:Int)+1)with
     | false =>
       rw[hq]at HCON;go_wp2_with fail;refine HCON.mono ?_;rintro e w3 ⟨rfl,hb3⟩;have k3:=(hb3.cell (p:=⟨c3,0,none⟩) hcl3).trans hcell3;go_wp2;go_roundw
       case rel=>exact⟨j+1,w3.heap.size,by omega,rfl,zdd w3 _,(HBOX.out.below hb3 hcl).alloc _,by rw[zlu hi6 hj6 hq,HN.out];exact(zhc HOWN.out hb3).alloc _,(hbel.trans (hb3.mono hsz)).alloc (by have:=hb3.size;omega) _⟩
       case measure=>simp[zhT,intOf,hcell3];omega
     | true =>
       rw[hq]at HCON;go_wp2_with fail;refine HCON.mono ?_;rintro e w3 ⟨rfl,hb3⟩;have k3:=(hb3.cell (p:=⟨c3,0,none⟩) hcl3).trans hcell3;have k2:=(hb3.cell (p:=⟨c,0,none⟩) hcl).trans hcell;have hown3:=zhc HOWN.out hb3;have hbox3':=HBOX3.out.below hb3 hcl3;have hbox':=HBOX.out.below hb3 hcl;have hb23:=hbel.trans (hb3.mono hsz);have hs23:=hb23.size;clear HOWN HBOX HBOX3 HCON hbel hsz;go_wp2_with (at_builtin;refine wpList_append_own _ rfl (.tmp 33) (.tmp 37) 89 rfl w2.heap.size 131 i0 (.agg #[.int .i64 0,.int .i64 0]) 2 16 Tryz.underlying89 HI.out.1 HI.out.2.1 HI.out.2.2.1 HI.out.2.2.2 rfl (by decide) u7 n (flatE (zaF d (6*i+j))) rfl (hown3.alloc _) ⟨w3.heap.size,0,none⟩ 1 1 (flatE [((i:Int)+1,(j:Int)+1)]) rfl rfl (zhe w3 _ _) (zes _) (by unfold maxLen;omega) (by omega) (by simp;omega) ?_;intro v4 w4 hown4 hgr4 hnil4;have j3:=((hbox3'.alloc _).grown (hown3.alloc _) hgr4).cell);have hB4:=(hb23.alloc hs23 _).grown hgr4 (by simp;omega) (fun m hm=>(hown3.lt m hm).1);have hbox4:=(hbox'.alloc _).grown (hown3.alloc _) hgr4;go_roundw
       case rel=>exact⟨j+1,w4.heap.size,by omega,rfl,zdd w4 _,hbox4.alloc _,by rw[zn3 hi6 hj6 hq,List.length_append,HN.out,zcf];exact hown4.alloc _,hB4.alloc hB4.size _⟩
       case measure=>simp[zhT,intOf,hcell3];omega
    ·have HJ:Hid (j=6):=by show j=6;omega
     have HOWN:Hid (wr.ownsRow w2.heap.size 131 2 u7 (zaF d (6*i+j)).length (flatE (zaF d (6*i+j)))):=hown;have HBOX:Hid (zbD wr c ((i:Int)+1)):=hbox;clear hown hbox hbox3;go_wp2;go_roundw
     case rel=>exact⟨i+1,wr.heap.size,by omega,rfl,zdd wr _,by rw[show 6*(i+1)=6*i+j by rw[HJ.out];omega];exact HOWN.out.alloc _,hbel.alloc hbel.size _⟩
     case measure=>simp[zhT,intOf,HCELL0.out];omega
  ·go_wp2;go_ret2;refine⟨_,rfl,?_,hb02.trans (hbel.mono hb02.size)⟩;rw[HD.out,show 36=6*i by omega];exact zbL HOWN.out rfl
end Go.Proofs.YthlhgiihngcobaaGreatDoor
namespace Go.Proofs.YthlhgiihngcobaaGreatDoor
open Go.RowKit
theorem zcl{a b:Bool}(h:a=b):Ending.returned (.bool a)=.returned (.bool b):=by rw[h]
theorem zl9{q:zab->Bool}{l:List zab}{k:Nat}{e:zab}(h:l.take (k+1)=l.take k++[e])(h1:(l.take k).any q=false)(h2:q e=false):(l.take (k+1)).any q=false:=by rw[h,List.any_append,h1];simp[h2]
theorem zpF{q:zab->Bool}{l:List zab}{e:zab}(h:e∈l)(h2:q e=true):l.any q=true:=List.any_eq_true.2 ⟨e,h,h2⟩
theorem zq4(l:List zab)(v:Value)(q:zab->Bool)(p1 p2:Value)(w:World)(hI:zaj w v l)(hlen:l.length<=140737488351)
  (hp:∀W:World,Below w.heap.size w W->∀e∈l,Calls Tryz.prog 182 #[.agg #[.int .i64 e.1,.int .i64 e.2],p1,p2] W fun r w'=>r=.returned (.bool (q e))/\Below W.heap.size W w') :
  Calls Tryz.prog 132 #[v,.func (.func 182) #[] #[p1,p2]] w fun r w'=>∃n:Int,r=.returned (.int .i64 n)/\(decide (0<=n)=l.any q)/\Below w.heap.size w w':=by
 obtain⟨ad,b,off,cap,rfl,ha,_,hbB,hops⟩:=hI;have HO:Hid (∀W,Below w.heap.size w W->∀k,k<l.length->ad=some ⟨b,off,none⟩/\W.cell? ⟨b,off+k*2,none⟩=some (.int .i64 (l.getD k (0,0)).1)/\W.cell? ⟨b,off+k*2+1,none⟩=some (.int .i64 (l.getD k (0,0)).2)):=fun W hW k hk=>⟨ha (by omega),(hops.below hW hbB) k hk⟩;have HP:Hid (∀W:World,Below w.heap.size w W->∀e∈l,Calls Tryz.prog 182 #[.agg #[.int .i64 e.1,.int .i64 e.2],p1,p2] W fun r w'=>r=.returned (.bool (q e))/\Below W.heap.size W w'):=hp;clear ha hbB hops hp;go_enter Tryz.func132,Tryz.ntmps132;go_wp2
 go_loopw [8] (fun v8 wr=>∃k:Nat,k<=l.length/\v8=.int .i64 k/\(l.take k).any q=false/\Below w.heap.size w wr) (fun v8 _=>l.length-(intOf v8).toNat)
 case atStart=>exact⟨0,Nat.zero_le _,rfl,by simp,Below.refl _ _⟩
 case round =>
  obtain⟨k,hk,rfl,hno,hbel⟩:=hrel;have HNO:Hid ((l.take k).any q=false):=hno;clear hno;have hsz:=hbel.size;by_cases hlt:k<l.length
  ·obtain⟨rfl,c0,c1⟩:=HO.out wr hbel k hlt;obtain⟨⟨t,a⟩,ho⟩:∃o:zab,l.getD k (0,0)=o:=⟨_,rfl⟩;rw[ho]at c0 c1;have hmem:(t,a)∈l:=by rw[<-ho];simp[List.getD,List.getElem?_eq_getElem hlt]
   have HT:Hid (l.take (k+1)=l.take k++[(t,a)]):=by show l.take (k+1)=l.take k++[(t,a)];rw[List.take_succ_eq_append_getElem hlt,<-ho];simp[List.getD,List.getElem?_eq_getElem hlt]
   have HM:Hid ((t,a)∈l):=hmem;clear ho HO hmem;simp only at c0 c1;cases hq:q (t,a)with
   | false =>
     have HQ:Hid (q (t,a)=false):=hq;have HC:Hid (Calls Tryz.prog 182 #[.agg #[.int .i64 t,.int .i64 a],p1,p2] wr fun r w'=>r=.returned (.bool false)/\Below wr.heap.size wr w'):=hq ▸HP.out wr hbel _ HM.out;clear hq;go_wp2_with (go_at_call 182;refine HC.out.mono ?_;rintro e w1 ⟨rfl,hb1⟩);go_roundw
     case rel=>exact⟨k+1,by omega,by go_num,zl9 HT.out HNO.out HQ.out,hbel.trans (hb1.mono hsz)⟩
     case measure=>simp[intOf];omega
   | true =>have HQ:Hid (q (t,a)=true):=hq;have HC:Hid (Calls Tryz.prog 182 #[.agg #[.int .i64 t,.int .i64 a],p1,p2] wr fun r w'=>r=.returned (.bool true)/\Below wr.heap.size wr w'):=hq ▸HP.out wr hbel _ HM.out;clear hq;go_wp2_with (go_at_call 182;refine HC.out.mono ?_;rintro e w1 ⟨rfl,hb1⟩);go_ret;exact⟨_,rfl,by rw[zpF HM.out HQ.out];simp,hbel.trans (hb1.mono hsz)⟩
  ·go_wp2;go_ret;refine⟨_,rfl,?_,hbel⟩;have h0:=HNO.out;rw[List.take_of_length_le (by omega)]at h0;rw[h0];simp
theorem zjV(l:List zab)(v:Value)(q:zab->Bool)(p1 p2:Value)(w:World)(hI:zaj w v l)(hlen:l.length<=140737488351)
  (hp:∀W:World,Below w.heap.size w W->∀e∈l,Calls Tryz.prog 182 #[.agg #[.int .i64 e.1,.int .i64 e.2],p1,p2] W fun r w'=>r=.returned (.bool (q e))/\Below W.heap.size W w') :
  Calls Tryz.prog 72 #[v,.func (.func 182) #[] #[p1,p2]] w fun r w'=>r=.returned (.bool (l.any q))/\Below w.heap.size w w':=by
 have HC:Hid (Calls Tryz.prog 132 #[v,.func (.func 182) #[] #[p1,p2]] w fun r w'=>∃n:Int,r=.returned (.int .i64 n)/\(decide (0<=n)=l.any q)/\Below w.heap.size w w'):=zq4 l v q p1 p2 w hI hlen hp;clear hp hI;go_enter Tryz.func72,Tryz.ntmps72;go_wp2_with (go_at_call 132;refine HC.out.mono ?_;rintro e w1 ⟨n,rfl,hn,hb1⟩);all_goals go_ret
 all_goals exact⟨zcl (by simp_all),hb1⟩
theorem zm2(l:List zab)(v:Value)(q:zab->Bool)(w:World)(hI:zaj w v l)(hlen:l.length<=140737488351)
  (hp:∀W:World,Below w.heap.size w W->∀e∈l,Calls Tryz.prog 179 #[.agg #[.int .i64 e.1,.int .i64 e.2]] W fun r w'=>r=.returned (.bool (q e))/\Below W.heap.size W w') :
  Calls Tryz.prog 132 #[v,.func (.func 179) #[] #[]] w fun r w'=>∃n:Int,r=.returned (.int .i64 n)/\(decide (0<=n)=l.any q)/\Below w.heap.size w w':=by
 obtain⟨ad,b,off,cap,rfl,ha,_,hbB,hops⟩:=hI;have HO:Hid (∀W,Below w.heap.size w W->∀k,k<l.length->ad=some ⟨b,off,none⟩/\W.cell? ⟨b,off+k*2,none⟩=some (.int .i64 (l.getD k (0,0)).1)/\W.cell? ⟨b,off+k*2+1,none⟩=some (.int .i64 (l.getD k (0,0)).2)):=fun W hW k hk=>⟨ha (by omega),(hops.below hW hbB) k hk⟩;have HP:Hid (∀W:World,Below w.heap.size w W->∀e∈l,Calls Tryz.prog 179 #[.agg #[.int .i64 e.1,.int .i64 e.2]] W fun r w'=>r=.returned (.bool (q e))/\Below W.heap.size W w'):=hp;clear ha hbB hops hp;go_enter Tryz.func132,Tryz.ntmps132;go_wp2
 go_loopw [8] (fun v8 wr=>∃k:Nat,k<=l.length/\v8=.int .i64 k/\(l.take k).any q=false/\Below w.heap.size w wr) (fun v8 _=>l.length-(intOf v8).toNat)
 case atStart=>exact⟨0,Nat.zero_le _,rfl,by simp,Below.refl _ _⟩
 case round =>
  obtain⟨k,hk,rfl,hno,hbel⟩:=hrel;have HNO:Hid ((l.take k).any q=false):=hno;clear hno;have hsz:=hbel.size;by_cases hlt:k<l.length
  ·obtain⟨rfl,c0,c1⟩:=HO.out wr hbel k hlt;obtain⟨⟨t,a⟩,ho⟩:∃o:zab,l.getD k (0,0)=o:=⟨_,rfl⟩;rw[ho]at c0 c1;have hmem:(t,a)∈l:=by rw[<-ho];simp[List.getD,List.getElem?_eq_getElem hlt]
   have HT:Hid (l.take (k+1)=l.take k++[(t,a)]):=by show l.take (k+1)=l.take k++[(t,a)];rw[List.take_succ_eq_append_getElem hlt,<-ho];simp[List.getD,List.getElem?_eq_getElem hlt]
   have HM:Hid ((t,a)∈l):=hmem;clear ho HO hmem;simp only at c0 c1;cases hq:q (t,a)with
   | false =>
     have HQ:Hid (q (t,a)=false):=hq;have HC:Hid (Calls Tryz.prog 179 #[.agg #[.int .i64 t,.int .i64 a]] wr fun r w'=>r=.returned (.bool false)/\Below wr.heap.size wr w'):=hq ▸HP.out wr hbel _ HM.out;clear hq;go_wp2_with (go_at_call 179;refine HC.out.mono ?_;rintro e w1 ⟨rfl,hb1⟩);go_roundw
     case rel=>exact⟨k+1,by omega,by go_num,zl9 HT.out HNO.out HQ.out,hbel.trans (hb1.mono hsz)⟩
     case measure=>simp[intOf];omega
   | true =>have HQ:Hid (q (t,a)=true):=hq;have HC:Hid (Calls Tryz.prog 179 #[.agg #[.int .i64 t,.int .i64 a]] wr fun r w'=>r=.returned (.bool true)/\Below wr.heap.size wr w'):=hq ▸HP.out wr hbel _ HM.out;clear hq;go_wp2_with (go_at_call 179;refine HC.out.mono ?_;rintro e w1 ⟨rfl,hb1⟩);go_ret;exact⟨_,rfl,by rw[zpF HM.out HQ.out];simp,hbel.trans (hb1.mono hsz)⟩
  ·go_wp2;go_ret;refine⟨_,rfl,?_,hbel⟩;have h0:=HNO.out;rw[List.take_of_length_le (by omega)]at h0;rw[h0];simp
theorem ziL(l:List zab)(v:Value)(q:zab->Bool)(w:World)(hI:zaj w v l)(hlen:l.length<=140737488351)
  (hp:∀W:World,Below w.heap.size w W->∀e∈l,Calls Tryz.prog 179 #[.agg #[.int .i64 e.1,.int .i64 e.2]] W fun r w'=>r=.returned (.bool (q e))/\Below W.heap.size W w') :
  Calls Tryz.prog 72 #[v,.func (.func 179) #[] #[]] w fun r w'=>r=.returned (.bool (l.any q))/\Below w.heap.size w w':=by
 have HC:Hid (Calls Tryz.prog 132 #[v,.func (.func 179) #[] #[]] w fun r w'=>∃n:Int,r=.returned (.int .i64 n)/\(decide (0<=n)=l.any q)/\Below w.heap.size w w'):=zm2 l v q w hI hlen hp;clear hp hI;go_enter Tryz.func72,Tryz.ntmps72;go_wp2_with (go_at_call 132;refine HC.out.mono ?_;rintro e w1 ⟨n,rfl,hn,hb1⟩);all_goals go_ret
 all_goals exact⟨zcl (by simp_all),hb1⟩
theorem isDeal_any(t:Int)(w:World):Calls Tryz.prog 180 #[.int .i64 t] w fun e w'=>e=.returned (.bool (zeh t))/\w'=w:=by
 go_enter Tryz.func180,Tryz.ntmps180;go_wp2;all_goals go_ret
 all_goals exact⟨zcl (by simp_all [zeh] <;> omega),rfl⟩
theorem zu0(e:zab)(w:World):Calls Tryz.prog 179 #[.agg #[.int .i64 e.1,.int .i64 e.2]] w fun r w'=>r=.returned (.bool (zdI e))/\Below w.heap.size w w':=by
 obtain⟨t,a⟩:=e;have HW:Hid (zdI (t,a)=(!zeh t || !zeh a)):=rfl;have hb:Below w.heap.size w (w.alloc (.cells #[.int .i64 t,.int .i64 a] 131)):=(Below.refl _ w).alloc (Nat.le_refl _) _;cases h1:zeh t with
 | false =>go_enter Tryz.func179,Tryz.ntmps179;go_wp2_with (go_at_call 180;refine(isDeal_any _ _).mono ?_;rintro e w' ⟨rfl,rfl⟩;rw[h1]);go_ret;exact⟨zcl (by rw[HW.out,h1];rfl),hb⟩
 | true =>go_enter Tryz.func179,Tryz.ntmps179;go_wp2_with fail;refine(isDeal_any _ _).mono ?_;rintro e w' ⟨rfl,hw⟩;rw[hw,h1];clear hw;go_wp2_with fail;refine(isDeal_any _ _).mono ?_;rintro e w' ⟨rfl,hw⟩;rw[hw];clear hw;go_wp2;go_ret;exact⟨zcl (by rw[HW.out,h1];rfl),hb⟩
def zCo(n:Int):Value:=if n=0 then .nilIface else .iface 80 (.int .i64 n)
theorem zqA(l:List zab)(v:Value)(w:World)(hI:zaj w v l):Calls Tryz.prog 112 #[v] w fun e w'=>e=.returned (zCo (gchk l))/\Below w.heap.size w w':=by
 have HI:Hid (zaj w v l):=hI;obtain⟨ad,b,off,cap,rfl,-,-,-,-⟩:=hI;by_cases hl:60<l.length
 ·have HG:Hid (gchk l=4):=by show gchk l=4;unfold gchk;rw[if_pos hl]
  have hl':(60:Int)<(l.length:Int):=by omega
  go_enter Tryz.func112,Tryz.ntmps112;go_wp2_with fail;go_ret;exact⟨by rw[HG.out];rfl,Below.refl _ _⟩
 ·have HC:Hid (Calls Tryz.prog 72 #[.slice ad l.length cap,.func (.func 179) #[] #[]] w fun r w'=>r=.returned (.bool (l.any zdI))/\Below w.heap.size w w'):=ziL l _ zdI w HI.out (by omega) fun W _ e _=>zu0 e W;have hl':¬(60:Int)<(l.length:Int):=by omega
  have HG:Hid (gchk l=if l.any zdI=true then 1 else 0):=by show gchk l=_;unfold gchk;rw[if_neg hl]
  clear hl;obtain⟨x,hx⟩:∃x,l.any zdI=x:=⟨_,rfl⟩;have HX:Hid (l.any zdI=x):=hx;clear hx;go_enter Tryz.func112,Tryz.ntmps112;go_wp2_with fail;refine HC.out.mono ?_;rintro e w1 ⟨rfl,hb1⟩;rw[HX.out];cases x with
  | false =>go_wp2_with fail;go_ret;exact⟨by rw[HG.out,HX.out];rfl,hb1⟩
  | true =>go_wp2_with fail;go_ret;exact⟨by rw[HG.out,HX.out];rfl,hb1⟩
end Go.Proofs.YthlhgiihngcobaaGreatDoor
namespace Go.Proofs.YthlhgiihngcobaaGreatDoor
open Go.RowKit
def zg6(w:World)(p:Nat)(t:Int):Prop:=w.cell? ⟨p,0,none⟩=some (.int .i64 t)/\w.frozen? ⟨p,0,none⟩=false
theorem zg6.lt{w:World}{p:Nat}{t:Int}(h:zg6 w p t):p<w.heap.size:=by have:=World.block_lt_of_cell? w _ h.1;simpa using this
theorem zg6.below{w w1:World}{p B:Nat}{t:Int}(h:zg6 w p t)(hb:Below B w w1)(hB:p<B):zg6 w1 p t:=by unfold zg6;rw[hb.cell (p:=⟨p,0,none⟩) hB,hb.frozen (p:=⟨p,0,none⟩) hB];exact h
theorem zkt(w:World)(x:Int)(t:Nat)(h:x=t):zg6 (w.alloc (.cells #[.int .i64 x] 3)) w.heap.size t:=by subst h;simp[zg6]
def zBm(v:Value)(w:World):Nat:=match v with
 | .pointer (some a)=>(match w.cell? a with
   | some (.int _ i)=>i.toNat
   | _=>0)
 | _=>0
theorem zyT{a:Addr}{w:World}{t:Nat}(h:w.cell? a=some (.int .i64 t)):zBm (.pointer (some a)) w=t:=by simp[zBm,h]
theorem zpd{a c:Addr}{w w1:World}{t:Nat}(h:w.cell? a=some (.int .i64 t))(h1:w1.cell? c=some (.int .i64 ((t+1:Nat):Int)))(ht:t<7):7-zBm (.pointer (some c)) w1<7-zBm (.pointer (some a)) w:=by rw[zyT h,zyT h1];omega
theorem zrK{s:zbg}{k:Nat}(h:(List.range k).any s=false)(h1:s k=false):(List.range (k+1)).any s=false:=by rw[List.range_succ,List.any_append,h];simp[h1]
theorem zsA{s:zbg}{k n:Nat}(hk:k<n)(h:s k=true):(List.range n).any s=true:=List.any_eq_true.2 ⟨k,List.mem_range.2 hk,h⟩
theorem znA(s:zbg)(b cap:Nat)(w:World)(h:zao w b 7 s):Calls Tryz.prog 181 #[.slice (some ⟨b,0,none⟩) 7 cap,.bool true] w fun e w'=>∃n:Int,e=.returned (.int .i64 n)/\decide (0<=n)=zeo s/\Below w.heap.size w w':=by
 have HB:Hid (zao w b 7 s):=h;have hbl:=h.lt (by omega);clear h;go_enter Tryz.func181,Tryz.ntmps181;go_wp2
 go_loopw [8] (fun v8 wr=>∃k:Nat,k<=7/\v8=.int .i64 k/\(List.range k).any s=false/\Below w.heap.size w wr) (fun v8 _=>7-(intOf v8).toNat)
 case atStart=>exact⟨0,by omega,rfl,rfl,Below.refl _ _⟩
 case round =>
  obtain⟨k,hk,rfl,hno,hbel⟩:=hrel;have HNO:Hid ((List.range k).any s=false):=hno;clear hno;by_cases hlt:k<7
  ·have c0:=((HB.out.below hbel hbl) k hlt).1;have hk7:(k:Int)<7:=by omega
   cases hq:s k with
   | false =>
     rw[hq]at c0;have HQ:Hid (s k=false):=hq;clear hq;go_wp2;go_roundw
     case rel=>exact⟨k+1,by omega,by go_num,zrK HNO.out HQ.out,hbel⟩
     case measure=>simp[intOf];omega
   | true =>rw[hq]at c0;have HQ:Hid (zeo s=true):=zsA hlt hq;clear hq;go_wp2;go_ret;exact⟨_,rfl,by rw[HQ.out];simp,hbel⟩
  ·have HQ:Hid (zeo s=false):=by
    have h0:=HNO.out;rw[show k=7 by omega]at h0;exact h0
   have hk7:¬(k:Int)<7:=by omega
   go_wp2;go_ret;exact⟨_,rfl,by rw[HQ.out];rfl,hbel⟩
theorem contains_bools(s:zbg)(b cap:Nat)(w:World)(h:zao w b 7 s):Calls Tryz.prog 114 #[.slice (some ⟨b,0,none⟩) 7 cap,.bool true] w fun e w'=>e=.returned (.bool (zeo s))/\Below w.heap.size w w':=by
 have HC:=znA s b cap w h;clear h;go_enter Tryz.func114,Tryz.ntmps114;go_wp2_with (go_at_call 181;refine HC.mono ?_;rintro e w1 ⟨n,rfl,hn,hb1⟩);all_goals go_ret
 all_goals exact⟨zcl (by simp_all),hb1⟩
theorem ztv(e:zab)(t:Nat)(s:zbg)(p q:Nat)(w:World)(hp:zg6 w p t)(hq:zao w q 7 s)(he:1<=e.1/\e.1<=6):Calls Tryz.prog 182 #[.agg #[.int .i64 e.1,.int .i64 e.2],.pointer (some ⟨p,0,none⟩),.pointer (some ⟨q,0,none⟩)] w fun r w'=>r=.returned (.bool (zf5 s t e))/\Below w.heap.size w w':=by
 obtain⟨x,y⟩:=e;obtain⟨x,rfl⟩:∃n:Nat,x=n:=⟨x.toNat,by simp only at he;omega⟩;simp only at he;have HH:Hid (zf5 s t ((x:Int),y)=(y == (t:Int) && s x)):=by show zf5 s t ((x:Int),y)=_;simp[zf5]
 have hb:Below w.heap.size w (w.alloc (.cells #[.int .i64 x,.int .i64 y] 131)):=(Below.refl _ w).alloc (Nat.le_refl _) _;have c0:=hp.1;have hpl:=hp.lt;have c1:=(hq x (by omega)).1;have hql:=hq.lt (by omega);have hx7:(x:Int)<7:=by omega
 clear hp hq;cases hy:(y == (t:Int))with
 | false =>go_enter Tryz.func182,Tryz.ntmps182;go_wp2;go_ret;exact⟨zcl (by rw[HH.out,hy];rfl),hb⟩
 | true =>go_enter Tryz.func182,Tryz.ntmps182;go_wp2;go_ret;exact⟨zcl (by rw[HH.out,hy];rfl),hb⟩
theorem zxk(l:List zab)(v:Value)(s:zbg)(w:World)(hI:zaj w v l)(hd:∀e∈l,(1<=e.1/\e.1<=6)/\(1<=e.2/\e.2<=6))(hl:l.length<=60):Calls Tryz.prog 115 #[v,.agg #[.bool (s 0),.bool (s 1),.bool (s 2),.bool (s 3),.bool (s 4),.bool (s 5),.bool (s 6)]] w fun e w'=>e=.returned (.int .i64 (nextN l s))/\Below w.heap.size w w':=by
 have HI:Hid (∀W,Below w.heap.size w W->zaj W v l):=fun W hW=>hI.below hW (Nat.le_refl _);have HV:Hid (∃ad n c,v=.slice ad n c):=by obtain⟨ad,b,off,cap,rfl,_⟩:=hI;exact⟨_,_,_,rfl⟩
 obtain⟨ad,vn,vc,rfl⟩:=HV.out;have HD:Hid (∀e∈l,(1<=e.1/\e.1<=6)/\(1<=e.2/\e.2<=6)):=hd;clear hI hd HV;go_enter Tryz.func115,Tryz.ntmps115;go_wp2
 go_loopw [5] (fun v5 wr=>∃t p:Nat,1<=t/\t<=7/\v5=.pointer (some ⟨p,0,none⟩)/\zg6 wr p t/\w.heap.size<p/\zao wr w.heap.size 7 s/\Below w.heap.size w wr/\(∀j,1<=j->j<t->za8 l s j=false)) (fun v5 wr=>7-zBm v5 wr)
 case atStart =>have hA:Below w.heap.size w (w.alloc (.cells #[.bool (s 0),.bool (s 1),.bool (s 2),.bool (s 3),.bool (s 4),.bool (s 5),.bool (s 6)] 194)):=(Below.refl _ w).alloc (Nat.le_refl _) _;exact⟨1,w.heap.size+1,by omega,by omega,rfl,by simp[zg6],by omega,(zcu w s _).alloc _,hA.alloc (by simp) _,fun j h1 h2=>absurd h1 (by omega)⟩
 case round =>
  obtain⟨t,p,ht1,ht7,rfl,hn,hpl,hs,hbel,hno⟩:=hrel;have HNO:Hid (∀j,1<=j->j<t->za8 l s j=false):=hno;have HS:Hid (zao wr w.heap.size 7 s):=hs;have HN:Hid (zg6 wr p t):=hn;have hpr:=hn.lt;obtain⟨n0,n1⟩:=hn;have hsz:=hbel.size;clear hno hs;by_cases hlt:t<7
  ·have ht6:(t:Int)<=6:=by omega
   have hti:(t:Int)<7:=by omega
   have c0:=(HS.out t hlt).1;cases hq:s t with
   | false =>
     have HF:Hid (za8 l s t=false):=by show za8 l s t=false;unfold za8;rw[hq];rfl
     rw[hq]at c0;clear hq;go_wp2;go_roundw
     case rel=>exact⟨t+1,wr.heap.size,by omega,by omega,rfl,zkt _ _ _ (by omega),by omega,HS.out.alloc _,hbel.alloc hsz _,fun j h1 h2=>by
      rcases Nat.lt_or_ge j t with h | h
      ·exact HNO.out j h1 h
      ·rw[show j=t by omega];exact HF.out⟩
     case measure=>exact zpd n0 (zkt _ _ _ rfl).1 (by omega)
   | true =>
     rw[hq]at c0;have HC:Hid (Calls Tryz.prog 72 #[.slice ad vn vc,.func (.func 182) #[] #[.pointer (some ⟨p,0,none⟩),.pointer (some ⟨w.heap.size,0,none⟩)]] wr fun r w'=>r=.returned (.bool (l.any (zf5 s t)))/\Below wr.heap.size wr w'):=zjV l _ (zf5 s t) _ _ wr (HI.out _ hbel) (by omega) fun W hW e he=>ztv e t s p w.heap.size W (HN.out.below hW hpr) (HS.out.below hW (by omega)) (HD.out e he).1;have HE:Hid (za8 l s t=!l.any (zf5 s t)):=by show za8 l s t=_;unfold za8;rw[hq];rfl
     clear hq;go_wp2_with fail;refine HC.out.mono ?_;rintro e w1 ⟨rfl,hb1⟩;have m0:=(HN.out.below hb1 hpr).1;have hs1:=hb1.size;have hB1:=hbel.trans (hb1.mono hsz);cases ha:l.any (zf5 s t)with
     | false =>have HR:Hid (nextN l s=t):=zhb ht1 (by omega) (by rw[HE.out,ha];rfl) HNO.out;go_wp2;go_ret;exact⟨by rw[HR.out];rfl,hB1⟩
     | true =>
       have HF:Hid (za8 l s t=false):=by show za8 l s t=false;rw[HE.out,ha];rfl
       clear ha;have hp1:p<w1.heap.size:=by omega
       go_wp2;go_roundw
       case rel=>exact⟨t+1,w1.heap.size,by omega,by omega,rfl,zkt _ _ _ (by omega),by omega,(HS.out.below hb1 (by omega)).alloc _,hB1.alloc hB1.size _,fun j h1 h2=>by
        rcases Nat.lt_or_ge j t with h | h
        ·exact HNO.out j h1 h
        ·rw[show j=t by omega];exact HF.out⟩
       case measure=>exact zpd n0 (zkt _ _ _ rfl).1 (by omega)
  ·have ht6:¬(t:Int)<=6:=by omega
   have HR:Hid (nextN l s=0):=zlp fun j h1 h2=>HNO.out j h1 (by omega);go_wp2;go_ret;exact⟨by rw[HR.out];rfl,hbel⟩
end Go.Proofs.YthlhgiihngcobaaGreatDoor
namespace Go.Proofs.YthlhgiihngcobaaGreatDoor
open Go.RowKit
theorem gcheck_ok(l:List zab)(v:Value)(w:World)(hI:zaj w v l)(hc:gchk l=0):Calls Tryz.prog 112 #[v] w fun e w'=>e=.returned .nilIface/\Below w.heap.size w w' :=(zqA l v w hI).mono fun _ _ ⟨he,hb⟩=>⟨by rw[he,hc];rfl,hb⟩
def zsV:Value->Nat
 | .slice _ n _=>n
 | _=>0
theorem zsX{w:World}{base e s n:Nat}{v:Value}{xs:List Value}(h:w.ownsRow base e s v n xs):zsV v=n:=by
 obtain⟨_,⟨hv,hd⟩ | ⟨g,cap,cur,hv,_⟩⟩:=h
 ·rw[hv];show 0=n;omega
 ·rw[hv];rfl
theorem zu1(l:List zab)(v:Value)(w:World)(hI:zaj w v l)(hc:gchk l=0):Calls Tryz.prog 46 #[v] w fun e w'=>((∃o v',zcM l=some o/\e=.returned (.tuple #[v',.nilIface])/\w'.ownsRow w.heap.size 3 1 v' o.length (o.map (Value.int .i64))/\o.length<=7)\/(zcM l=none/\e=.returned (.tuple #[.slice none 0 0,.iface 80 (.int .i64 8)])))/\Below w.heap.size w w':=by
 have HI:Hid (∀W,Below w.heap.size w W->zaj W v l):=fun W hW=>hI.below hW (Nat.le_refl _);have hl:=zpg hc;have HD:Hid (∀e∈l,(1<=e.1/\e.1<=6)/\(1<=e.2/\e.2<=6)):=zla hc;have HC:Hid (gchk l=0):=hc;obtain⟨i0,hi,hz0,hs0,hy0⟩:=info_parts zbK;have HT:Hid (Tryz.prog.info? 3=some i0/\i0.zero=some (.int .i64 0)/\i0.size=1/\i0.bytes=8):=⟨hi,hz0,hs0,hy0⟩;clear hi hz0 hs0 hy0 hI hc;go_enter Tryz.func46,Tryz.ntmps46;go_wp2_with fail;refine(gcheck_ok l _ _ (HI.out _ (Below.refl _ _)) HC.out).mono ?_;rintro e w1 ⟨rfl,hb1⟩;go_wp2_with fail;refine(named_any l _ _ (HI.out _ hb1) HD.out hl).mono ?_;rintro e w2 ⟨rfl,hb2⟩;have hb02:=hb1.trans (hb2.mono hb1.size);have HN2:Hid (w.heap.size<=w2.heap.size):=hb02.size;go_wp2_with fail
 go_loopw [6] (fun v6 wr=>∃(n:Nat) (s:zbg) (out:List Int),zcP s<=n/\zcM l=orderGo l n s out/\out.length+zcP s<=7/\wr.ownsRow (w2.heap.size+1) 3 1 v6 out.length (out.map (Value.int .i64))/\zao wr w2.heap.size 7 s/\Below w.heap.size w wr) (fun v6 _=>8-zsV v6)
 case atStart=>exact⟨7,namedS l,[],cnt_le _,rfl,by have:=cnt_le (namedS l);simpa using this,World.ownsRow_nil _ _ _ _,zcu w2 (namedS l) _,hb02.alloc hb02.size _⟩
 case round =>
  clear hb1 hb2 hb02;obtain⟨n,s,out,hn,ho,hlen,hown,hs,hbel⟩:=hrel;have HN:Hid (zcP s<=n/\zcM l=orderGo l n s out/\out.length+zcP s<=7):=⟨hn,ho,hlen⟩;have hol:out.length<=7:=by omega
  have HOWN:Hid (wr.ownsRow (w2.heap.size+1) 3 1 u6 out.length (out.map (Value.int .i64))):=hown;have HS:Hid (zao wr w2.heap.size 7 s):=hs;have hB:=hs.lt (by omega);have hsl:=zsX hown;have HSL:Hid (zsV u6=out.length):=hsl;clear hn ho hlen hown hs hsl;go_wp2_with fail;refine(contains_bools s w2.heap.size 7 _ HS.out).mono ?_;rintro e w3 ⟨rfl,hb3⟩;have hb03:=hbel.trans (hb3.mono hbel.size);have HOWN3:Hid (w3.ownsRow (w2.heap.size+1) 3 1 u6 out.length (out.map (Value.int .i64))):=zaG HOWN.out hb3 (Nat.le_refl _);have HS3:Hid (zao w3 w2.heap.size 7 s):=HS.out.below hb3 hB;have hB3:=HS3.out.lt (by omega);clear HOWN HS hB hb3 hbel;cases hany:zeo s with
  | false =>
    have HR:Hid (zcM l=some out):=by show zcM l=some out;rw[HN.out.2.1,zhL hany]
    clear hany;go_wp2;go_ret2;exact⟨.inl ⟨out,_,HR.out,rfl,HOWN3.out.mono (by have:=HN2.out;omega),hol⟩,hb03⟩
  | true =>
    have HA:Hid (zeo s=true):=hany;clear hany;have hc3:∀k,k<7->w3.cell? ⟨w2.heap.size,k,none⟩=some (.bool (s k)):=fun k hk=>(HS3.out k hk).1;go_wp2_with fail;refine(zxk l _ s _ (HI.out _ hb03) HD.out hl).mono ?_;rintro e w4 ⟨rfl,hb4⟩;have hb04:=hb03.trans (hb4.mono hb03.size);have HOWN4:Hid (w4.ownsRow (w2.heap.size+1) 3 1 u6 out.length (out.map (Value.int .i64))):=zaG HOWN3.out hb4 (Nat.le_refl _);have HS4:Hid (zao w4 w2.heap.size 7 s):=HS3.out.below hb4 hB3;have hB4:=HS4.out.lt (by omega);clear HOWN3 HS3 hc3 hb4 hb03 hB3;by_cases h0:nextN l s=0
    ·have HR:Hid (zcM l=none):=by show zcM l=none;rw[HN.out.2.1,zgR HN.out.1 HA.out h0]
     rw[h0];clear h0;go_wp2;go_ret2;exact⟨.inr ⟨HR.out,rfl⟩,hb04⟩
    ·have hnx:=next_cases l s;obtain⟨t,ht⟩:∃t,nextN l s=t:=⟨_,rfl⟩;have HR:Hid (zcM l=orderGo l (n-1) (zdn s t false) (out++[(t:Int)])):=by show zcM l=_;rw[HN.out.2.1,zjs HN.out.1 HA.out h0,ht]
     rw[ht]at hnx h0 ⊢
     have ht6:1<=t/\t<=6/\s t=true:=by
      rcases hnx with⟨h,_⟩ | ⟨h1,h2,h3,_⟩
      ·exact absurd h h0
      ·exact⟨h1,h2,by unfold za8 at h3;cases hst:s t with | true=>rfl | false=>rw[hst]at h3;cases h3⟩
     obtain⟨ht1,ht6,hst⟩:=ht6;have HC2:Hid (zcP (zdn s t false)+1=zcP s):=zjO (by omega) hst;obtain⟨c0,z0⟩:=HS4.out t (by omega);have ht0:((t:Int) == 0)=false:=by simpa using h0
     have ht7:(t:Int)<7:=by omega
     have hsz4:=hb04.size;clear hnx ht h0 hst;go_wp2_with (at_builtin;refine wpList_append_own _ rfl (.tmp 25) (.tmp 27) 24 rfl (w2.heap.size+1) 3 i0 (.int .i64 0) 1 8 Tryz.underlying24 HT.out.1 HT.out.2.1 HT.out.2.2.1 HT.out.2.2.2 rfl (by decide) u6 out.length (out.map (Value.int .i64)) rfl ((ownsRow_setCell_below HOWN4.out (by simp) _).alloc _) ⟨w4.heap.size,0,none⟩ 1 1 [.int .i64 t] rfl rfl (by have:=cell_one_new (w4.setCell ⟨w2.heap.size,t,none⟩ (.bool false)) (.int .i64 t) 3;simpa using this) (by simp[Value.oneCell']) (by unfold maxLen;omega) (by omega) (by simp;omega) ?_;intro v' w5 hown5 hgr5 hnil5);have hBn:u6.ownBlock≠some w2.heap.size:=fun e=>by have:=(HOWN4.out.lt _ e).1;omega
     have hb5:Below w.heap.size w w5:=((hb04.setCell HN2.out _).alloc (by simpa using hsz4) _).grown hgr5 (by simp;omega) (fun m hm=>by have:=(HOWN4.out.lt m hm).1;have:=HN2.out;omega);have hs5:zao w5 w2.heap.size 7 (zdn s t false):=((HS4.out.set false (by omega)).alloc _).grown hgr5 (by simp;omega) hBn;have hl5:=zsX hown5;refine⟨⟨n-1,zdn s t false,out++[(t:Int)],?_,HR.out,?_,?_,hs5,hb5⟩,?_⟩
     ·have:=HC2.out;have:=HN.out.1;omega
     ·have:=HC2.out;have:=HN.out.2.2;simp;omega
     ·simpa using hown5
     ·rw[hl5,HSL.out];omega
end Go.Proofs.YthlhgiihngcobaaGreatDoor
