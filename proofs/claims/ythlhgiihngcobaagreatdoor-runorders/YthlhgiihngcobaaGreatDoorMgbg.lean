/-
  PROVED HERE: slices.IndexFunc and slices.ContainsFunc over a slice of edges, for the two closures that the program hands; odds.Edges gives, of a right list, the edges between deals that commit, each once, in order.
  Conditions: none but those that each theorem's own premises say.
-/
import Derived.Test.YthlhgiihngcobaaGreatDoorMgbf
import Derived.Test.YthlhgiihngcobaaGreatDoorMgap
import Derived.Test.YthlhgiihngcobaaGreatDoorMgak
set_option maxHeartbeats 32000000
set_option maxRecDepth 100000
namespace Go.Proofs.YthlhgiihngcobaaGreatDoor
open Go.RowKit
theorem zlo{q:zaa->Bool}{l:List zaa}{k:Nat}{e:zaa}(h:l.take (k+1)=l.take k++[e])(h1:(l.take k).any q=false)(h2:q e=false):(l.take (k+1)).any q=false:=by rw[h,List.any_append,h1];simp[h2]
theorem zmQ{q:zaa->Bool}{l:List zaa}{e:zaa}(h:e∈l)(h2:q e=true):l.any q=true:=List.any_eq_true.2 ⟨e,h,h2⟩
theorem zhj(l:List zaa)(v:Value)(q:zaa->Bool)(p1 p2 p3:Value)(w:World)(hI:zae w v l)(hlen:l.length<=140737488351)
  (hp:∀W:World,Below w.heap.size w W->∀e∈l,Calls Tryz.prog 111 #[.agg #[.int .i64 e.1,.int .i64 e.2],p1,p2,p3] W fun r w'=>r=.returned (.bool (q e))/\Below W.heap.size W w') :
  Calls Tryz.prog 132 #[v,.func (.func 111) #[] #[p1,p2,p3]] w fun r w'=>∃n:Int,r=.returned (.int .i64 n)/\(decide (0<=n)=l.any q)/\Below w.heap.size w w':=by
 obtain⟨ad,b,off,cap,rfl,ha,_,hbB,hops⟩:=hI;have HO:Hid (∀W,Below w.heap.size w W->∀k,k<l.length->ad=some ⟨b,off,none⟩/\W.cell? ⟨b,off+k*2,none⟩=some (.int .i64 (l.getD k (0,0)).1)/\W.cell? ⟨b,off+k*2+1,none⟩=some (.int .i64 (l.getD k (0,0)).2)):=fun W hW k hk=>⟨ha (by omega),(hops.below hW hbB) k hk⟩;have HP:Hid (∀W:World,Below w.heap.size w W->∀e∈l,Calls Tryz.prog 111 #[.agg #[.int .i64 e.1,.int .i64 e.2],p1,p2,p3] W fun r w'=>r=.returned (.bool (q e))/\Below W.heap.size W w'):=hp;clear ha hbB hops hp;go_enter Tryz.func132,Tryz.ntmps132;go_wp2
 go_loopw [8] (fun v8 wr=>∃k:Nat,k<=l.length/\v8=.int .i64 k/\(l.take k).any q=false/\Below w.heap.size w wr) (fun v8 _=>l.length-(intOf v8).toNat)
 case atStart=>exact⟨0,Nat.zero_le _,rfl,by simp,Below.refl _ _⟩
 case round =>
  obtain⟨k,hk,rfl,hno,hbel⟩:=hrel;have HNO:Hid ((l.take k).any q=false):=hno;clear hno;have hsz:=hbel.size;by_cases hlt:k<l.length
  ·obtain⟨rfl,c0,c1⟩:=HO.out wr hbel k hlt;obtain⟨⟨t,a⟩,ho⟩:∃o:zaa,l.getD k (0,0)=o:=⟨_,rfl⟩;rw[ho]at c0 c1;have hmem:(t,a)∈l:=by rw[<-ho];simp[List.getD,List.getElem?_eq_getElem hlt]
   have HT:Hid (l.take (k+1)=l.take k++[(t,a)]):=by show l.take (k+1)=l.take k++[(t,a)];rw[List.take_succ_eq_append_getElem hlt,<-ho];simp[List.getD,List.getElem?_eq_getElem hlt]
   have HM:Hid ((t,a)∈l):=hmem;clear ho HO hmem;simp only at c0 c1;cases hq:q (t,a)with
   | false =>
     have HQ:Hid (q (t,a)=false):=hq;have HC:Hid (Calls Tryz.prog 111 #[.agg #[.int .i64 t,.int .i64 a],p1,p2,p3] wr fun r w'=>r=.returned (.bool false)/\Below wr.heap.size wr w'):=hq ▸HP.out wr hbel _ HM.out;clear hq;go_wp2_with (go_at_call 111;refine HC.out.mono ?_;rintro e w1 ⟨rfl,hb1⟩);go_roundw
     case rel=>exact⟨k+1,by omega,by go_num,zlo HT.out HNO.out HQ.out,hbel.trans (hb1.mono hsz)⟩
     case measure=>simp[intOf];omega
   | true =>have HQ:Hid (q (t,a)=true):=hq;have HC:Hid (Calls Tryz.prog 111 #[.agg #[.int .i64 t,.int .i64 a],p1,p2,p3] wr fun r w'=>r=.returned (.bool true)/\Below wr.heap.size wr w'):=hq ▸HP.out wr hbel _ HM.out;clear hq;go_wp2_with (go_at_call 111;refine HC.out.mono ?_;rintro e w1 ⟨rfl,hb1⟩);go_ret;exact⟨_,rfl,by rw[zmQ HM.out HQ.out];simp,hbel.trans (hb1.mono hsz)⟩
  ·go_wp2;go_ret;refine⟨_,rfl,?_,hbel⟩;have h0:=HNO.out;rw[List.take_of_length_le (by omega)]at h0;rw[h0];simp
theorem contains_edges(l:List zaa)(v:Value)(q:zaa->Bool)(p1 p2 p3:Value)(w:World)(hI:zae w v l)(hlen:l.length<=140737488351)
  (hp:∀W:World,Below w.heap.size w W->∀e∈l,Calls Tryz.prog 111 #[.agg #[.int .i64 e.1,.int .i64 e.2],p1,p2,p3] W fun r w'=>r=.returned (.bool (q e))/\Below W.heap.size W w') :
  Calls Tryz.prog 72 #[v,.func (.func 111) #[] #[p1,p2,p3]] w fun r w'=>r=.returned (.bool (l.any q))/\Below w.heap.size w w':=by
 have HC:Hid (Calls Tryz.prog 132 #[v,.func (.func 111) #[] #[p1,p2,p3]] w fun r w'=>∃n:Int,r=.returned (.int .i64 n)/\(decide (0<=n)=l.any q)/\Below w.heap.size w w'):=zhj l v q p1 p2 p3 w hI hlen hp;clear hp hI;go_enter Tryz.func72,Tryz.ntmps72;go_wp2_with (go_at_call 132;refine HC.out.mono ?_;rintro e w1 ⟨n,rfl,hn,hb1⟩);all_goals go_ret
 all_goals exact⟨zbP (by simp_all),hb1⟩
end Go.Proofs.YthlhgiihngcobaaGreatDoor
namespace Go.Proofs.YthlhgiihngcobaaGreatDoor
open Go.RowKit
def zef(w:World):Value->Int
 | .pointer (some a)=>intOf ((w.cell? a).getD undef)
 | _=>0
def zaM(w:World)(c:Nat)(x:Int):Prop:=w.heap[c]? = some (.cells #[.int .i64 x] 3)
theorem zaM.cell{w:World}{c:Nat}{x:Int}(h:zaM w c x):w.cell? ⟨c,0,none⟩=some (.int .i64 x):=by rw[cell_of_row w c 0 _ _ (0,0) h];rfl
theorem zaM.lt{w:World}{c:Nat}{x:Int}(h:zaM w c x):c<w.heap.size:=(Array.getElem?_eq_some_iff.1 h).1
theorem zaM.below{w w':World}{c B:Nat}{x:Int}(h:zaM w c x)(hb:Below B w w')(hc:c<B):zaM w' c x:=(hb.block c hc).trans h
theorem zaM.alloc{w:World}{c:Nat}{x:Int}(h:zaM w c x)(o:Obj):zaM (w.alloc o) c x:=h.below ((Below.refl _ w).alloc (Nat.le_refl _) o) h.lt
theorem zbL(w:World)(x:Int):zaM (w.alloc (.cells #[.int .i64 x] 3)) w.heap.size x:=heap_alloc_new w _
theorem zaM.grown{w w':World}{c base n:Nat}{x:Int}{v:Value}{xs:List Value}(h:zaM w c x)(ho:w.ownsRow base 131 2 v n xs)(hg:w.grownBy w' v.ownBlock):zaM w' c x:=by
 refine(hg.block c h.lt ?_).trans h;intro he;obtain⟨_,⟨hv,_⟩ | ⟨g,cap,cur,hv,hb,hgg,_⟩⟩:=ho
 ·rw[hv]at he;simp[Value.ownBlock]at he
 ·rw[hv]at he;simp[Value.ownBlock]at he;subst he;unfold zaM at h;rw[hgg]at h;simp at h
theorem zdS{w w':World}{base e s n:Nat}{v:Value}{xs:List Value}(h:w.ownsRow base e s v n xs)(hb:Below w.heap.size w w'):w'.ownsRow base e s v n xs :=h.kept (row:=none) ⟨hb.os,hb.tape,hb.output,hb.size,fun k hk _=>hb.block k hk⟩ (by cases v.ownBlock <;> simp)
theorem zin(d:List Op3)(dv:Value)(c1 c2 c3 i j:Nat)(f t:Int)(w:World)(hI:zal w dv d)(hl:d.length<=40)(h1:w.cell? ⟨c1,0,none⟩=some dv)(h2:w.cell? ⟨c2,0,none⟩=some (.int .i64 f))(h3:w.cell? ⟨c3,0,none⟩=some (.int .i64 t))(hi:i<d.length)(hj:j<d.length):Calls Tryz.prog 111 #[.agg #[.int .i64 i,.int .i64 j],.pointer (some ⟨c1,0,none⟩),.pointer (some ⟨c2,0,none⟩),.pointer (some ⟨c3,0,none⟩)] w fun e w'=>e=.returned (.bool (zcp d (i,j) == (f,t)))/\Below w.heap.size w w':=by
 have b1:=World.block_lt_of_cell? w _ h1;have b2:=World.block_lt_of_cell? w _ h2;have b3:=World.block_lt_of_cell? w _ h3;simp only at b1 b2 b3;obtain⟨ad,b,off,cap,rfl,ha,_,hbB,hops⟩:=hI;obtain rfl:=ha (by omega);have c0:=(hops i hi).1;have d0:=(hops j hj).1;have bb:=World.block_lt_of_cell? w _ c0;simp only at bb;obtain⟨x,hx⟩:∃x,(opAt d i).1=x:=⟨_,rfl⟩;obtain⟨y,hy⟩:∃y,(opAt d j).1=y:=⟨_,rfl⟩;rw[show(d.getD i (0,0,0)).1=x from hx]at c0;rw[show(d.getD j (0,0,0)).1=y from hy]at d0
 have HE:Hid ((zcp d (i,j) == (f,t))=(x == f && y == t)):=by
  show(zcp d (i,j) == (f,t))=(x == f && y == t);have:zcp d (i,j)=(x,y):=by simp[zcp,hx,hy]
  rw[this];rfl
 clear ha hbB hops hx hy;go_enter Tryz.func111,Tryz.ntmps111;by_cases hq:x=f
 ·subst hq;go_wp2_with fail;go_quiet (fail);go_wp2;all_goals go_ret
  all_goals exact⟨zbP (by rw[HE.out];simp_all),below_drewN ((Below.refl _ w).alloc (Nat.le_refl _) _) _⟩
 ·have hq':(x == f)=false:=by simpa using hq
  clear hq;go_wp2_with fail;go_quiet (fail);go_wp2;all_goals go_ret
  all_goals exact⟨zbP (by rw[HE.out,hq'];rfl),below_drewN ((Below.refl _ w).alloc (Nat.le_refl _) _) _⟩
theorem zlp(l:List Op3)(v:Value)(w:World)(h:zal w v l)(hc:(chk l).2=0):Calls Tryz.prog 45 #[v] w fun e w'=>∃v',e=.returned (.tuple #[v',.nilIface])/\zae w' v' (zam (doneL l) 36)/\Below w.heap.size w w':=by
 go_enter Tryz.func45,Tryz.ntmps45;go_wp2_with fail;refine(done_ok l _ _ h hc).mono ?_;rintro e w1 ⟨v1,rfl,hI1,hb1⟩;have hl:(doneL l).length<=40:=Nat.le_trans (List.length_filter_le ..) (zaN hc);obtain⟨d,hd⟩:∃d,doneL l=d:=⟨_,rfl⟩;have HD:Hid (doneL l=d):=hd;rw[hd]at hI1 hl;clear hd;have hs1:=hb1.size;have HI1:Hid (∃ad n c,v1=.slice ad n c):=by obtain⟨ad,b,off,cap,rfl,_⟩:=hI1;exact⟨_,_,_,rfl⟩
 obtain⟨ad1,n1,cap1,rfl⟩:=HI1.out;clear HI1;go_wp2_with fail;have hA:Below w1.heap.size w1 (w1.alloc (.cells #[.slice ad1 n1 cap1] 28)):=(Below.refl _ w1).alloc (Nat.le_refl _) _;refine(zgj d _ _ (hI1.below hA (Nat.le_refl _)) hl).mono ?_;rintro e w2 ⟨v2,rfl,hE2,hb2⟩;have hI2:=(hI1.below hA (Nat.le_refl _)).below hb2 (Nat.le_refl _);have hc2:w2.cell? ⟨w1.heap.size,0,none⟩=some (.slice ad1 n1 cap1):=by rw[hb2.cell (p:=⟨w1.heap.size,0,none⟩) (by simp)];simp
 have hb02:Below w.heap.size w w2:=(hb1.trans (hA.mono hs1)).trans (hb2.mono (by simp;omega));have hlt2:w1.heap.size<w2.heap.size:=by have:=hb2.size;simp at this;omega
 clear hA hb2 hI1 hb1;obtain⟨c1,hc1⟩:∃c,c=w1.heap.size:=⟨_,rfl⟩;rw[<-hc1]at hc2 hlt2 ⊢;clear hc1
 -- what the closure answers,wherever it is asked
 have HP:Hid (∀(c2 c3:Nat) (f t:Int) (W:World),Below w2.heap.size w2 W->W.cell? ⟨c2,0,none⟩=some (.int .i64 f)->W.cell? ⟨c3,0,none⟩=some (.int .i64 t) ->
   Calls Tryz.prog 72 #[v2,.func (.func 111) #[] #[.pointer (some ⟨c1,0,none⟩),.pointer (some ⟨c2,0,none⟩),.pointer (some ⟨c3,0,none⟩)]] W fun r w'=>r=.returned (.bool (zdD d (f,t)))/\Below W.heap.size W w'):=by
  intro c2 c3 f t W hW h2 h3;refine contains_edges (pairsL d) v2 (fun p=>zcp d p == (f,t)) _ _ _ W (hE2.below hW (Nat.le_refl _)) (by have:=zeS d hl;omega) ?_;intro W' hW' e he;obtain⟨i,j,hij,hj,_,rfl⟩:=zaQ.1 he;have l2:=World.block_lt_of_cell? W _ h2;have l3:=World.block_lt_of_cell? W _ h3;have hWW:Below w2.heap.size w2 W':=hW.trans (hW'.mono hW.size);exact zin d _ c1 c2 c3 i j f t W' (hI2.below hWW (Nat.le_refl _)) hl ((hWW.cell (p:=⟨c1,0,none⟩) hlt2).trans hc2) ((hW'.cell (p:=⟨c2,0,none⟩) l2).trans h2) ((hW'.cell (p:=⟨c3,0,none⟩) l3).trans h3) (by omega) hj
 clear hI2 hc2 hE2;obtain⟨i0,hi,hz0,hs0,hy0⟩:=info_parts zhV;have HI:Hid (Tryz.prog.info? 131=some i0/\i0.zero=some (.agg #[.int .i64 0,.int .i64 0])/\i0.size=2/\i0.bytes=16):=⟨hi,hz0,hs0,hy0⟩;clear hi hz0 hs0 hy0;go_wp2_with fail
 go_loopw [7,8] (fun v7 v8 wr=>∃(i c:Nat),i<=6/\v8=.pointer (some ⟨c,0,none⟩)/\zaM wr c ((i:Int)+1)/\wr.ownsRow w2.heap.size 131 2 v7 (zam d (6*i)).length (flatE (zam d (6*i)))/\Below w2.heap.size w2 wr) (fun _ v8 wr=>7-(zef wr v8).toNat)
 case atStart=>exact⟨0,_,by omega,rfl,by simpa using zbL w2 1,World.ownsRow_nil _ _ _ _,(Below.refl _ w2).alloc (Nat.le_refl _) _⟩
 case round =>
  obtain⟨i,c,hi,rfl,hbox,hown,hbel⟩:=hrel;have hcell:=hbox.cell;have HCELL0:Hid (wr.cell? ⟨c,0,none⟩=some (.int .i64 ((i:Int)+1))):=hcell;have hcl:=hbox.lt;have HBOX:Hid (zaM wr c ((i:Int)+1)):=hbox;have HOWN:Hid (wr.ownsRow w2.heap.size 131 2 u7 (zam d (6*i)).length (flatE (zam d (6*i)))):=hown;clear hbox hown;by_cases hi6:i<6
  ·have hi6':(i:Int)+1<=6:=by omega
   go_wp2_with fail
   go_loopw [7,9] (fun v7 v9 wi=>∃(j c3:Nat),j<=6/\v9=.pointer (some ⟨c3,0,none⟩)/\zaM wi c3 ((j:Int)+1)/\zaM wi c ((i:Int)+1)/\wi.ownsRow w2.heap.size 131 2 v7 (zam d (6*i+j)).length (flatE (zam d (6*i+j)))/\Below w2.heap.size w2 wi) (fun _ v9 wi=>7-(zef wi v9).toNat)
   case atStart=>exact⟨0,_,by omega,rfl,by simpa using zbL wr 1,HBOX.out.alloc _,HOWN.out.alloc _,hbel.alloc hbel.size _⟩
   case round =>
    clear HOWN HBOX hcell hcl hbel;obtain⟨j,c3,hj,rfl,hbox3,hbox,hown,hbel⟩:=hrel;have hcell:=hbox.cell;have hcell3:=hbox3.cell;have hcl:=hbox.lt;have hcl3:=hbox3.lt;have hsz:=hbel.size;by_cases hj6:j<6
    ·have hj6':(j:Int)+1<=6:=by omega
     have hkl:=zev d (6*i+j);obtain⟨n,hn⟩:∃n,(zam d (6*i+j)).length=n:=⟨_,rfl⟩;have HN:Hid ((zam d (6*i+j)).length=n):=hn;rw[hn]at hown hkl;have HOWN:Hid (wr.ownsRow w2.heap.size 131 2 u7 n (flatE (zam d (6*i+j)))):=hown;have HBOX:Hid (zaM wr c ((i:Int)+1)):=hbox;have HBOX3:Hid (zaM wr c3 ((j:Int)+1)):=hbox3;have HCON:=HP.out c c3 _ _ wr hbel hcell hcell3;clear hown hn hbox hbox3;cases hq:zdD d ((i:Int)+1,(j:Int)+1)with
     | false =>
       rw[hq]at HCON;go_wp2_with fail;refine HCON.mono ?_;rintro e w3 ⟨rfl,hb3⟩;have k3:=(hb3.cell (p:=⟨c3,0,none⟩) hcl3).trans hcell3;go_wp2;go_roundw
       case rel=>exact⟨j+1,w3.heap.size,by omega,rfl,zbL w3 _,(HBOX.out.below hb3 hcl).alloc _,by rw[zgy hi6 hj6 hq,HN.out];exact(zdS HOWN.out hb3).alloc _,(hbel.trans (hb3.mono hsz)).alloc (by have:=hb3.size;omega) _⟩
       case measure=>simp[zef,intOf,hcell3];omega
     | true =>
       rw[hq]at HCON;go_wp2_with fail;refine HCON.mono ?_;rintro e w3 ⟨rfl,hb3⟩;have k3:=(hb3.cell (p:=⟨c3,0,none⟩) hcl3).trans hcell3;have k2:=(hb3.cell (p:=⟨c,0,none⟩) hcl).trans hcell;have hown3:=zdS HOWN.out hb3;have hbox3':=HBOX3.out.below hb3 hcl3;have hbox':=HBOX.out.below hb3 hcl;have hb23:=hbel.trans (hb3.mono hsz);have hs23:=hb23.size;clear HOWN HBOX HBOX3 HCON hbel hsz;go_wp2_with (at_builtin;refine wpList_append_own _ rfl (.tmp 33) (.tmp 37) 89 rfl w2.heap.size 131 i0 (.agg #[.int .i64 0,.int .i64 0]) 2 16 Tryz.underlying89 HI.out.1 HI.out.2.1 HI.out.2.2.1 HI.out.2.2.2 rfl (by decide) u7 n (flatE (zam d (6*i+j))) rfl (hown3.alloc _) ⟨w3.heap.size,0,none⟩ 1 1 (flatE [((i:Int)+1,(j:Int)+1)]) rfl rfl (zhU w3 _ _) (zd6 _) (by unfold maxLen;omega) (by omega) (by simp;omega) ?_;intro v4 w4 hown4 hgr4 hnil4;have j3:=((hbox3'.alloc _).grown (hown3.alloc _) hgr4).cell);have hB4:=(hb23.alloc hs23 _).grown hgr4 (by simp;omega) (fun m hm=>(hown3.lt m hm).1);have hbox4:=(hbox'.alloc _).grown (hown3.alloc _) hgr4;go_roundw
       case rel=>exact⟨j+1,w4.heap.size,by omega,rfl,zbL w4 _,hbox4.alloc _,by rw[zhq hi6 hj6 hq,List.length_append,HN.out,zcl];exact hown4.alloc _,hB4.alloc hB4.size _⟩
       case measure=>simp[zef,intOf,hcell3];omega
    ·have HJ:Hid (j=6):=by show j=6;omega
     have HOWN:Hid (wr.ownsRow w2.heap.size 131 2 u7 (zam d (6*i+j)).length (flatE (zam d (6*i+j)))):=hown;have HBOX:Hid (zaM wr c ((i:Int)+1)):=hbox;clear hown hbox hbox3;go_wp2;go_roundw
     case rel=>exact⟨i+1,wr.heap.size,by omega,rfl,zbL wr _,by rw[show 6*(i+1)=6*i+j by rw[HJ.out];omega];exact HOWN.out.alloc _,hbel.alloc hbel.size _⟩
     case measure=>simp[zef,intOf,HCELL0.out];omega
  ·go_wp2;go_ret2;refine⟨_,rfl,?_,hb02.trans (hbel.mono hb02.size)⟩;rw[HD.out,show 36=6*i by omega];exact zcJ HOWN.out rfl
end Go.Proofs.YthlhgiihngcobaaGreatDoor
