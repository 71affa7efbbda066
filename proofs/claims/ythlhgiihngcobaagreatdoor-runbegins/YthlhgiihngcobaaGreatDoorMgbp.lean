/-
  PROVED HERE: plain facts; slices.IndexFunc and slices.ContainsFunc over a slice of whole numbers, for any closure; strict.lane's methods abort and wound, over a run in memory, if free does what chapter 9 says; strict.lane's methods avoid and do, over a run in memory.
  Conditions: none but those that each theorem's own premises say.
-/
import Derived.Test.YthlhgiihngcobaaGreatDoorMgan
import Derived.Test.YthlhgiihngcobaaGreatDoorMgah
import Derived.Test.YthlhgiihngcobaaGreatDoorMgbh
import Derived.Test.YthlhgiihngcobaaGreatDoorMgbo
set_option maxHeartbeats 32000000
set_option maxRecDepth 100000
namespace Go.Proofs.YthlhgiihngcobaaGreatDoor
theorem zb5.tabs{r:zat}(h:zb5 r)(hp:pot r<=47):r.tab.1.length<=100/\r.tab.2.length<=100/\r.told.length<=47/\r.vict.length<=6:=by have h1:=h.size;have h2:=h.vict;unfold pot at hp;exact⟨by omega,by omega,by omega,by omega⟩
theorem zrq{r:zat}{t:Int}(h1:1<=t)(h6:t<=6)(ho:r.out t=false):pot (abort0 r t)<=pot r:=by
 have hc:(cnt6 fun d=>!setF r.out t true d)+1=cnt6 fun d=>!r.out d:=by
  rw[<-zcq (f:=fun d=>!r.out d) h1 h6 (by simp[ho])];congr 2
  funext d
  unfold setF;split <;> rfl
 have h2:sum6 (setF r.behind t [])<=sum6 r.behind:=zdz fun d=>by
  unfold setF;split
  ·simp
  ·exact Nat.le_refl _
 have h3:=zmf (f:=r.waits) (d:=t);unfold pot abort0;dsimp only;rw[List.length_append,List.length_singleton];omega
theorem zqN(r:zat)(t:Int):sum6 (abort0 r t).behind<=sum6 r.behind:=zdz fun d=>by
 show(setF r.behind t [] d).length<=_;unfold setF;split
 ·simp
 ·exact Nat.le_refl _
end Go.Proofs.YthlhgiihngcobaaGreatDoor
namespace Go.Proofs.YthlhgiihngcobaaGreatDoor
open Go.RowKit
theorem zrp{q:Int->Bool}{l:List Int}{k:Nat}{e:Int}(h:l.take (k+1)=l.take k++[e])(h1:(l.take k).any q=false)(h2:q e=false):(l.take (k+1)).any q=false:=by rw[h,List.any_append,h1];simp[h2]
def zeg(l:List Int)(q:Int->Bool)(n:Int):Prop:=(n=-1/\l.any q=false)\/∃k:Nat,n=k/\k<l.length/\q (l.getD k 0)=true/\(l.take k).any q=false
theorem ziC{l:List Int}{k:Nat}(h:k<l.length):l.getD k 0∈l:=by simp[List.getD,h]
theorem zeg.sign{l:List Int}{q:Int->Bool}{n:Int}(h:zeg l q n):decide (0<=n)=l.any q:=by
 rcases h with⟨rfl,h⟩ | ⟨k,rfl,hk,hq,_⟩
 ·rw[h];rfl
 ·have:l.any q=true:=List.any_eq_true.2 ⟨_,ziC hk,hq⟩;rw[this];simp
theorem zeg.none{l:List Int}{q:Int->Bool}(h:l.any q=false):zeg l q (-1):=.inl ⟨rfl,h⟩
theorem zeg.some{l:List Int}{q:Int->Bool}{k:Nat}{e:Int}(hk:k<l.length)(he:l.getD k 0=e)(hq:q e=true)(h:(l.take k).any q=false):zeg l q (k:Int):=.inr ⟨k,rfl,hk,by rw[he];exact hq,h⟩
theorem zmH(l:List Int)(v:Value)(q:Int->Bool)(N:Nat)(C:Array Value)(w:World)(hcall:∀(args:Array Value) (W:World),(callFunc N args).run Tryz.prog W=.ok (.enter N args) W)(hI:zaf w v l)(hlen:l.length<=140737488351)
  (hp:∀W:World,Below w.heap.size w W->∀e∈l,Calls Tryz.prog N (#[.int .i64 e]++C) W fun r w'=>r=.returned (.bool (q e))/\Below W.heap.size W w') :
  Calls Tryz.prog 117 #[v,.func (.func N) #[] C] w fun r w'=>∃n:Int,r=.returned (.int .i64 n)/\zeg l q n/\Below w.heap.size w w':=by
 have HI2:Hid (zaf w v l):=hI;obtain⟨ad,b,off,cap,rfl,ha,_,hbB,hops⟩:=hI
 have HO:Hid (∀W,Below w.heap.size w W->∀k,k<l.length->ad=some ⟨b,off,none⟩/\W.cell? ⟨b,off+k,none⟩=some (.int .i64 (l.getD k 0))):=fun W hW k hk=>⟨ha (by omega),by
  have hb:b<w.heap.size:=by
   rcases hbB with h | h
   ·exact h
   ·subst h;simp at hk
  exact(hW.cell (p:=⟨b,off+k,none⟩) hb).trans (hops k hk)⟩
 have HP:Hid (∀W:World,Below w.heap.size w W->∀e∈l,Calls Tryz.prog N (#[.int .i64 e]++C) W fun r w'=>r=.returned (.bool (q e))/\Below W.heap.size W w'):=hp;clear ha hbB hops hp HI2;go_enter Tryz.func117,Tryz.ntmps117;go_wp2
 go_loopw [8] (fun v8 wr=>∃k:Nat,k<=l.length/\v8=.int .i64 k/\(l.take k).any q=false/\Below w.heap.size w wr) (fun v8 _=>l.length-(intOf v8).toNat)
 case atStart=>exact⟨0,Nat.zero_le _,rfl,by simp,Below.refl _ _⟩
 case round =>
  obtain⟨k,hk,rfl,hno,hbel⟩:=hrel;have HNO:Hid ((l.take k).any q=false):=hno;clear hno;have hsz:=hbel.size;by_cases hlt:k<l.length
  ·have hlt':(k:Int)<(l.length:Int):=by omega
   obtain⟨rfl,c0⟩:=HO.out wr hbel k hlt;obtain⟨t,ho⟩:∃o:Int,l.getD k 0=o:=⟨_,rfl⟩;rw[ho]at c0;have hmem:t∈l:=by rw[<-ho];exact ziC hlt
   have HT:Hid (l.take (k+1)=l.take k++[t]):=by show l.take (k+1)=l.take k++[t];rw[List.take_succ_eq_append_getElem hlt,<-ho];simp[List.getD,List.getElem?_eq_getElem hlt]
   have HM:Hid (t∈l):=hmem;have HG:Hid (l.getD k 0=t):=ho;clear ho HO hmem;cases hq:q t with
   | false =>
     have HQ:Hid (q t=false):=hq;have HC:Hid (Calls Tryz.prog N (#[.int .i64 t]++C) wr fun r w'=>r=.returned (.bool false)/\Below wr.heap.size wr w'):=hq ▸HP.out wr hbel _ HM.out;clear hq;go_wp2_with fail;refine HC.out.mono ?_;rintro e w1 ⟨rfl,hb1⟩;go_wp2_with fail;go_roundw
     case rel=>exact⟨k+1,by omega,by go_num,zrp HT.out HNO.out HQ.out,hbel.trans (hb1.mono hsz)⟩
     case measure=>simp[intOf];omega
   | true =>have HQ:Hid (q t=true):=hq;have HC:Hid (Calls Tryz.prog N (#[.int .i64 t]++C) wr fun r w'=>r=.returned (.bool true)/\Below wr.heap.size wr w'):=hq ▸HP.out wr hbel _ HM.out;clear hq;go_wp2_with fail;refine HC.out.mono ?_;rintro e w1 ⟨rfl,hb1⟩;go_wp2_with fail;go_ret;exact⟨_,rfl,zeg.some hlt HG.out HQ.out HNO.out,hbel.trans (hb1.mono hsz)⟩
  ·have hlt':¬(k:Int)<(l.length:Int):=by omega
   go_wp2_with fail;go_ret;refine⟨_,rfl,zeg.none ?_,hbel⟩;have h0:=HNO.out;rw[List.take_of_length_le (by omega)]at h0;exact h0
theorem zlr(l:List Int)(v:Value)(q:Int->Bool)(N:Nat)(C:Array Value)(w:World)(hcall:∀(args:Array Value) (W:World),(callFunc N args).run Tryz.prog W=.ok (.enter N args) W)(hI:zaf w v l)(hlen:l.length<=140737488351)
  (hp:∀W:World,Below w.heap.size w W->∀e∈l,Calls Tryz.prog N (#[.int .i64 e]++C) W fun r w'=>r=.returned (.bool (q e))/\Below W.heap.size W w') :
  Calls Tryz.prog 150 #[v,.func (.func N) #[] C] w fun r w'=>r=.returned (.bool (l.any q))/\Below w.heap.size w w':=by
 have HC:Hid (Calls Tryz.prog 117 #[v,.func (.func N) #[] C] w fun r w'=>∃n:Int,r=.returned (.int .i64 n)/\zeg l q n/\Below w.heap.size w w'):=zmH l v q N C w hcall hI hlen hp;clear hp hI hcall;go_enter Tryz.func150,Tryz.ntmps150;go_wp2_with (go_at_call 117;refine HC.out.mono ?_;rintro e w1 ⟨n,rfl,hn,hb1⟩;have hn1:=hn.sign;clear hn);all_goals go_ret
 all_goals exact⟨ret_bool (by simp_all),hb1⟩
theorem zx6(e t:Int)(P:Nat)(w:World)(h:w.cell? ⟨P,0,none⟩=some (.int .i64 t)):Calls Tryz.prog 231 (#[.int .i64 e] ++ #[.pointer (some ⟨P,0,none⟩)]) w fun r w'=>r=.returned (.bool (decide (e<t)))/\Below w.heap.size w w':=by go_enter Tryz.func231,Tryz.ntmps231;go_wp2;go_ret;exact⟨rfl,Below.refl _ _⟩
theorem zrB(e t:Int)(P:Nat)(w:World)(h:w.cell? ⟨P,0,none⟩=some (.int .i64 t)):Calls Tryz.prog 264 (#[.int .i64 e] ++ #[.pointer (some ⟨P,0,none⟩)]) w fun r w'=>r=.returned (.bool (decide (t<e)))/\Below w.heap.size w w':=by go_enter Tryz.func264,Tryz.ntmps264;go_wp2;go_ret;exact⟨rfl,Below.refl _ _⟩
theorem zrW:∀(args:Array Value) (W:World),(callFunc 231 args).run Tryz.prog W=.ok (.enter 231 args) W:=fun args W=>by kernel_rfl
theorem zk3:∀(args:Array Value) (W:World),(callFunc 264 args).run Tryz.prog W=.ok (.enter 264 args) W:=fun args W=>by kernel_rfl
theorem zvI(l:List Int)(v:Value)(t:Int)(P:Nat)(w:World)(hI:zaf w v l)(hlen:l.length<=6)(h:w.cell? ⟨P,0,none⟩=some (.int .i64 t)):Calls Tryz.prog 150 #[v,.func (.func 231) #[] #[.pointer (some ⟨P,0,none⟩)]] w fun r w'=>r=.returned (.bool (l.any fun x=>decide (x<t)))/\Below w.heap.size w w' :=zlr l v _ _ _ w zrW hI (by omega) fun W hW e _=>zx6 e t P W ((hW.cell (p:=⟨P,0,none⟩) (World.block_lt_of_cell? w _ h)).trans h)
theorem zob(l:List Int)(v:Value)(t:Int)(P:Nat)(w:World)(hI:zaf w v l)(hlen:l.length<=6)(h:w.cell? ⟨P,0,none⟩=some (.int .i64 t)):Calls Tryz.prog 117 #[v,.func (.func 264) #[] #[.pointer (some ⟨P,0,none⟩)]] w fun r w'=>∃n:Int,r=.returned (.int .i64 n)/\zeg l (fun x=>decide (t<x)) n/\Below w.heap.size w w' :=zmH l v _ _ _ w zk3 hI (by omega) fun W hW e _=>zrB e t P W ((hW.cell (p:=⟨P,0,none⟩) (World.block_lt_of_cell? w _ h)).trans h)
end Go.Proofs.YthlhgiihngcobaaGreatDoor
namespace Go.Proofs.YthlhgiihngcobaaGreatDoor
open Go.RowKit
def zsD(way:Int)(n:Nat):Prop:=∀(R:Nat) (r:zat) (c:Lay) (P:Int->Option Op3) (d:Int) (w:World),zah w R way r (wm r P) c->zb5 r->zbw r P->1<=d->d<=6->r.out d=false->pot r<=47->sum6 r.behind<=n ->
 Calls Tryz.prog 230 #[.pointer (some ⟨R,0,none⟩),.int .i64 d] w fun e w'=>e=.returned (.tuple #[])/\zav w w' R way c (zco (doN way n) r d) (wm (zco (doN way n) r d) P)
theorem zxW{r:zat}{P:Int->Option Op3}{t d:Int}(h:d≠t):wm r P d=wm (abort0 r t) P d:=by unfold wm abort0;simp only[zaa _ _ h]
theorem zjt{way:Int}{n:Nat}(hF:zBp way n):zsD way n:=by
 intro R r c P d w h hg hf h1 h6 ho hp hs;have HF:=zag hF;have HTB:=zag (hg.tabs hp);have HAG:=zag (zgt hg h1 h6 ho);have HAP:Hid (pot (abort0 r d)<=47/\sum6 (abort0 r d).behind<=n):=⟨Nat.le_trans (zrq h1 h6 ho) hp,Nat.le_trans (zqN r _) hs⟩;have HFB:=zag (hf.abort ho);have hwf:Wf d:=zaX h1 h6;have hv:d ∉ r.vict:=fun hm=>by rw[(hf.vict d).2 hm]at ho;cases ho
 have HS:=zag (zbV.start h);have c3:=h.c3;have HM3:=zag h.outs;have HVS:Hid (∀y,zbt (r.vict++[d]) y=setF (zbt r.vict) d (some (.int .i64 (r.vict.length:Int))) y):=fun y=>ziY hv y;have HVN:Hid ((zbt r.vict d).isSome=false):=by show _=false;rw[zb8,decide_eq_false hv]
 clear hF hg hf ho hp hs hv h;go_enter Tryz.func230,Tryz.ntmps230;go_wp2_with (first | (at_len;refine zoK _ rfl (.tmp 8) 148 rfl 3 Tryz.underlying148 c.A r.vict.length (zbt r.vict) rfl HM3.out ?_) | (at_mapUpdate;refine zo5 _ rfl (.tmp 13) (.tmp 14) (.tmp 15) 148 rfl 3 Tryz.underlying148 c.A r.vict.length (zbt r.vict) rfl HM3.out d (.int .i64 (r.vict.length:Int)) rfl rfl h1 h6 ?_;intro w1 hm1 ht1));have hst1:=HS.out.run.setOuts (l:=r.vict++[d]) (by have h2:=hm1;rw[HVN.out]at h2;have h3:=zax.congr h2 HVS.out;rw[List.length_append,List.length_singleton];exact h3) ht1;obtain⟨c1,hs1⟩:=HS.out.step hst1;have HS1:=zag hs1;clear hm1 ht1 hst1 hs1 c3 HM3 HS;go_wp2_with fail;refine(tell_run (d,4,0) HS1.out.run HTB.out.2.2.1).mono ?_;rintro e w2 ⟨rfl,hst2⟩;obtain⟨c2,hs2⟩:=HS1.out.step hst2;have HS2:=zag hs2;obtain⟨m5,hm5⟩:=hs2.run.beh;have HM5:=zag hm5;have c5:=hs2.run.c5;clear hst2 hs2 hm5 HS1;go_wp2_with (at_delete;refine zna _ rfl (.tmp 23) (.tmp 24) 150 rfl 28 Tryz.underlying150 c2.B m5 c2.h rfl HM5.out d rfl hwf ?_;intro w3 m3 hm3 ht3);obtain⟨dn,rfl⟩:∃k:Nat,d=k:=⟨d.toNat,by omega⟩;obtain⟨c3,hs3⟩:=HS2.out.step (HS2.out.run.dropBeh (d:=dn) (by omega) hm3 ht3);have HS3:Hid (zah w3 R way (abort0 r (dn:Int)) (wm r P) c3):=hs3.run.as rfl rfl rfl rfl;have HST:Hid (zac (feet R c) w w3/\∀k,feet R c3 k->feet R c k\/w.heap.size<=k):=⟨hs3.turn,hs3.feet⟩;clear hm3 ht3 hs3 c5 HS2 HM5;go_wp2_with fail;refine(HF.out R (abort0 r (dn:Int)) (wm r P) c3 P (dn:Int) w3 HS3.out (fun e he=>zxW he) HFB.out HAG.out HTB.out.1 HTB.out.2.1 h1 h6 HAP.out.1 HAP.out.2).mono ?_;rintro e w4 ⟨rfl,hst4⟩;have HS4:=zag hst4;clear hst4;go_wp2_with fail;go_end0;exact⟨rfl,zav.trans HST.out.1 HST.out.2 HS4.out⟩
theorem zyW(R:Nat):∃mu:World->Nat,∀ {w:World} {way:Int} {r:zat} {g:Int->Option Value} {c:Lay} {P:Int->Option Op3},zah w R way r g c->zbw r P->mu w=cnt6 fun d=>!r.out d:=by
 obtain⟨f,hf⟩:∃f:World->Nat->Nat,∀w d,f w d=(match w.cell? ⟨R,3,none⟩with
  | some m=>(match (Instr.lookup 148 m (.int .i64 d) true).run Tryz.prog w with | .ok (.tuple a) _=>(match a.toList with | [_,Value.bool false]=>1 | _=>0) | _=>0)
  | none=>0):=⟨_,fun _ _=>rfl⟩
 refine⟨fun w=>f w 1+f w 2+f w 3+f w 4+f w 5+f w 6,?_⟩;intro w way r g c P h hfit
 have h1:∀d:Nat,1<=d->d<=6->f w d=(!r.out (d:Int)).toNat:=fun d h1 h6=>by
  rw[hf,h.c3];simp only[h.outs.look true Tryz.underlying148 (zpp w) (zaX (x:=(d:Int)) (by omega) (by omega)),if_true,zb8];cases ho:r.out (d:Int)with
  | true=>rw[decide_eq_true ((hfit.vict _).1 ho)];rfl
  | false=>rw[decide_eq_false (fun hm=>by rw[(hfit.vict _).2 hm]at ho;cases ho)];rfl
 dsimp only;unfold cnt6;rw[h1 1 (by omega) (by omega),h1 2 (by omega) (by omega),h1 3 (by omega) (by omega),h1 4 (by omega) (by omega),h1 5 (by omega) (by omega),h1 6 (by omega) (by omega)];rfl
def zyq(way:Int)(n:Nat):Prop:=∀(R:Nat) (r:zat) (c:Lay) (P:Int->Option Op3) (t:Int) (w:World),zah w R way r (wm r P) c->zb5 r->zbw r P->1<=t->t<=6->pot r<=47->sum6 r.behind<=n ->
 Calls Tryz.prog 233 #[.pointer (some ⟨R,0,none⟩),.int .i64 t] w fun e w'=>e=.returned (.tuple #[])/\zav w w' R way c (woundN (doN way n) t 7 r) (wm (woundN (doN way n) t 7 r) P)
theorem zod{s:za3}{t:Int}{k:Nat}(hk:k<(zaN s t).length)(hq:decide (t<(zaN s t).getD k 0)=true)(hn:((zaN s t).take k).any (fun x=>decide (t<x))=false):zdQ s t=some ((zaN s t).getD k 0):=by
 refine zvH hk rfl (fun i hi hlt=>?_) (by simpa using hq);have hm:(zaN s t).getD i 0∈(zaN s t).take k:=by rw[List.mem_iff_getElem];exact⟨i,by simp;omega,by simp[List.getD,List.getElem?_eq_getElem (show i<(zaN s t).length by omega)]⟩
 have:=List.any_eq_false.1 hn _ hm;exact this (by simpa using hlt)
theorem zrF{s:za3}{t:Int}(h:(zaN s t).any (fun x=>decide (t<x))=false):zdQ s t=none:=by refine zry fun i hi hlt=>?_;have:=List.any_eq_false.1 h _ (ziC hi);exact this (by simpa using hlt)
theorem zrQ{way:Int}{n:Nat}(hA:zsD way n):zyq way n:=by
 intro R r c P t w h hg hf h1 h6 hp hs;obtain⟨mu,hmu⟩:=zyW R;have HMU:Hid (∀ {w:World} {way:Int} {r:zat} {g:Int->Option Value} {c:Lay} {P:Int->Option Op3},zah w R way r g c->zbw r P->mu w=cnt6 fun d=>!r.out d):=hmu;clear hmu;have HA:=zag hA;have HDO:=zag (zhR way n);have HDF:=zag (zhh way n);have hwf:Wf t:=zaX h1 h6;obtain⟨TG,hTG⟩:∃TG,woundN (doN way n) t 7 r=TG:=⟨_,rfl⟩;rw[hTG];have hlv:(cnt6 fun d=>!r.out d)+1<=7:=by have:=hg.vict;omega
 have HST:Hid (zbV w w R way c r (wm r P) c/\zb5 r/\zbw r P/\pot r<=47/\sum6 r.behind<=n/\woundN (doN way n) t 7 r=TG/\(cnt6 fun d=>!r.out d)+1<=7):=⟨zbV.start h,hg,hf,hp,hs,hTG,hlv⟩;clear hA h hg hf hp hs hTG hlv;go_enter Tryz.func233,Tryz.ntmps233;go_wp2_with fail;obtain⟨W,hW⟩:∃W,W=w.alloc (.cells #[.int .i64 t] 3):=⟨_,rfl⟩;rw[<-hW];have hbW:Below w.heap.size w W:=by rw[hW];exact(Below.refl _ w).alloc (Nat.le_refl _) _
 have p0:W.cell? ⟨w.heap.size,0,none⟩=some (.int .i64 t):=by rw[hW];simp
 have hnf:¬feet R c w.heap.size:=fun hk=>by have:=HST.out.1.run.feet_lt hk;omega
 obtain⟨Q,hQ⟩:∃Q,Q=w.heap.size:=⟨_,rfl⟩;rw[<-hQ]at p0 hnf ⊢;have HS0:Hid (∃(m:Nat) (rm:zat) (cm:Lay),zbV w W R way c rm (wm rm P) cm/\W.cell? ⟨Q,0,none⟩=some (.int .i64 t)/\¬feet R cm Q/\zb5 rm/\zbw rm P/\pot rm<=47/\sum6 rm.behind<=n/\woundN (doN way n) t m rm=TG/\(cnt6 fun d=>!rm.out d)+1<=m):=⟨7,r,c,HST.out.1.below hbW,p0,hnf,HST.out.2⟩;clear hW hbW p0 hnf hQ HST
 go_loopw [5] (fun _ wr=>∃(m:Nat) (rm:zat) (cm:Lay),zbV w wr R way c rm (wm rm P) cm/\wr.cell? ⟨Q,0,none⟩=some (.int .i64 t)/\¬feet R cm Q/\zb5 rm/\zbw rm P/\pot rm<=47/\sum6 rm.behind<=n/\woundN (doN way n) t m rm=TG/\(cnt6 fun d=>!rm.out d)+1<=m) (fun _ wr=>mu wr)
 case atStart=>exact HS0.out
 case round =>
  obtain⟨m,rm,cm,hsi,hq0,hnf,hgood,hfits,hpot,hsum,hwo,hlv⟩:=hrel;have HSI:=zag hsi;have HQ:=zag (And.intro hq0 hnf);have HOK:=zag (And.intro hgood (And.intro hfits (And.intro hpot (And.intro hsum (And.intro hwo hlv)))));have HLV:=zag (HMU.out hsi.run hfits);have hsix:(zaN rm.tab t).length<=6:=zhd (fun d x hx=>(zdU hgood hx).2) t;have htb:=hgood.tabs hpot;have HWF:=zag (zet hsi.run hfits hwf (by omega) (by omega));clear hsi hnf hgood hfits hpot hsum hwo hlv HS0 htb;go_wp2_with fail;refine HWF.out.mono ?_;rintro e w1 ⟨v1,rfl,hi1,hb1⟩;have HI1:=zag hi1;have HB1:=zag hb1;have hq1:w1.cell? ⟨Q,0,none⟩=some (.int .i64 t):=(hb1.cell (p:=⟨Q,0,none⟩) (World.block_lt_of_cell? wr _ hq0)).trans hq0;obtain⟨ad1,cp1,rfl,-⟩:=zad hi1;have HYA:=zag (zob (zaN rm.tab t) (.slice ad1 (zaN rm.tab t).length cp1) t Q w1 hi1.ints hsix hq1);clear hi1 hb1 HWF hq0;go_wp2_with fail;refine HYA.out.mono ?_;rintro e w2 ⟨n2,rfl,hfi,hb2⟩;have HB2:Hid (Below wr.heap.size wr w2):=HB1.out.trans (hb2.mono HB1.out.size);have HI2:Hid (zgO w2 wr.heap.size (.slice ad1 (zaN rm.tab t).length cp1) (zaN rm.tab t)):=HI1.out.below hb2 (Nat.le_refl _);have hq2:w2.cell? ⟨Q,0,none⟩=some (.int .i64 t):=(hb2.cell (p:=⟨Q,0,none⟩) (World.block_lt_of_cell? w1 _ hq1)).trans hq1;clear hb2 HYA HI1 hq1;rcases hfi with⟨rfl,hno⟩ | ⟨k,rfl,hk,hq,hno⟩
  ·have HTE:Hid (rm=TG):=by show _=_;rw[<-HOK.out.2.2.2.2.1,zrH (zrF hno)]
   clear hno;go_wp2_with fail;refine bodyPost_ret (results_none Tryz.results233 _ _ _) rfl ⟨rfl,?_⟩;rw[<-HTE.out];exact(HSI.out.below HB2.out).done
  ·have hy:=zod hk hq hno;obtain⟨x,hx⟩:∃x,(zaN rm.tab t).getD k 0=x:=⟨_,rfl⟩;rw[hx]at hy;obtain⟨y1,y2,y3⟩:=zdU HOK.out.1 (ziG hy).1;obtain⟨m',rfl⟩:∃m',m=m'+1:=⟨m-1,by have:=HOK.out.2.2.2.2.2;omega⟩;have HWN:Hid (woundN (doN way n) t m' (zco (doN way n) rm x)=TG):=by show _=_;rw[<-zri hy];exact HOK.out.2.2.2.2.1
   obtain⟨s1,s2⟩:=zf4 HDO.out HOK.out.1 y2 y3 y1;have HAF:=zag (zeO HDO.out HDF.out HOK.out.1 HOK.out.2.1 y2 y3 y1);have HLL:=zag (zty y2 y3 y1 s2 s1.outs);have HSS:=zag s1;have hk':¬(k:Int)<0:=by omega
   have hk0:(0:Int)<=(k:Int):=by omega
   have hkl:(k:Int)<((zaN rm.tab t).length:Int):=by omega
   obtain⟨gg,rfl,-,hgl,-⟩:=(zad HI2.out).elim fun _ h=>h.elim fun _ h=>by obtain⟨e,h⟩:=h;simp only[Value.slice.injEq,true_and]at e;obtain⟨rfl,rfl⟩:=e;exact h (by omega)
   have e0:w2.cell? ⟨gg,k,none⟩=some (.int .i64 x):=by have h1:w2.ownsRow wr.heap.size 3 1 (.slice (some ⟨gg,0,none⟩) (zaN rm.tab t).length cp1) (zaN rm.tab t).length ((zaN rm.tab t).map (Value.int .i64)):=HI2.out;have h2:=h1.cells (g:=gg) rfl k (.int .i64 x) (by rw[List.getElem?_map,List.getElem?_eq_getElem hk,<-hx];simp[List.getD,hk]);rw[Addr.add_lit,Nat.zero_add]at h2;exact h2
   have HS2:=zag (HSI.out.below HB2.out);have HAB:=zag (HA.out R rm cm P x w2 HS2.out.run HOK.out.1 HOK.out.2.1 y2 y3 y1 HOK.out.2.2.1 HOK.out.2.2.2.1);clear hno hq hy hx y1 y2 y3 s1 s2;go_wp2_with fail;refine HAB.out.mono ?_;rintro e w3 ⟨rfl,hst3⟩;have htu:zac (feet R cm) w2 w3:=by obtain⟨_,_,h1,_⟩:=hst3;exact h1
   have hq3:w3.cell? ⟨Q,0,none⟩=some (.int .i64 t):=(htu.cell (p:=⟨Q,0,none⟩) (World.block_lt_of_cell? w2 _ hq2) HQ.out.2).trans hq2;obtain⟨c3,a1,a2,a3⟩:=hst3
   have hnf3:¬feet R c3 Q:=fun hk=>by
    rcases a3 Q hk with h1 | h1
    ·exact HQ.out.2 h1
    ·have:=World.block_lt_of_cell? w2 _ hq2;simp only at this;omega
   have HS3:=zag (HS2.out.to a1 a2 a3);have HL3:=zag (HMU.out a1 HAF.out);have HN3:=zag (And.intro hq3 hnf3);clear a1 a2 a3 htu hq3 hnf3 hq2 e0 hgl;go_wp2_with fail;go_roundw
   case rel=>exact⟨m',_,c3,HS3.out,HN3.out.1,HN3.out.2,HSS.out.good,HAF.out,by have:=HSS.out.pots;have:=HOK.out.2.2.1;omega,by have:=zdz HSS.out.less;have:=HOK.out.2.2.2.1;omega,HWN.out,by have:=HLL.out;have:=HOK.out.2.2.2.2.2;omega⟩
   case measure=>rw[HL3.out,HLV.out];have:=HLL.out;omega
end Go.Proofs.YthlhgiihngcobaaGreatDoor
namespace Go.Proofs.YthlhgiihngcobaaGreatDoor
open Go.RowKit
def zA8(way:Int)(n:Nat):Prop:=∀(R:Nat) (r:zat) (c:Lay) (P:Int->Option Op3) (t:Nat) (w:World),zah w R way r (wm r P) c->zb5 r->zbw r P->1<=t->t<=6->r.out (t:Int)=false->pot r<=47->sum6 r.behind<=n ->
 Calls Tryz.prog 194 #[.pointer (some ⟨R,0,none⟩),.int .i64 t] w fun e w'=>e=.returned (.tuple #[])/\zav w w' R way c (zlN way (doN way n) r t) (wm (zlN way (doN way n) r t) P)
theorem zqt{way:Int}(hway:way=0\/way=1\/way=2){n:Nat}(hA:zsD way n)(hW:zyq way n):zA8 way n:=by
 intro R r c P t w h hg hf h1 h6 ho hp hs;have hbW:Below w.heap.size w (w.alloc (.cells #[.int .i64 (t:Int)] 3)):=(Below.refl _ w).alloc (Nat.le_refl _) _;have htb:=hg.tabs hp;have hwd:∀d x,x∈zaN r.tab d->1<=x/\x<=6:=fun d x hx=>(zdU hg hx).2;have hsix:=zhd hwd (t:Int);have hwf:Wf (t:Int):=zaX (by omega) (by omega);have HA:Hid (∀(W:World),zah W R way r (wm r P) c->Calls Tryz.prog 230 #[.pointer (some ⟨R,0,none⟩),.int .i64 t] W fun e w'=>e=.returned (.tuple #[])/\zav W w' R way c (zco (doN way n) r t) (wm (zco (doN way n) r t) P)):=fun W hl=>hA R r c P t W hl hg hf (by omega) (by omega) ho hp hs;have HWD:Hid (∀(W:World),zah W R way r (wm r P) c->Calls Tryz.prog 233 #[.pointer (some ⟨R,0,none⟩),.int .i64 t] W fun e w'=>e=.returned (.tuple #[])/\zav W w' R way c (woundN (doN way n) t 7 r) (wm (woundN (doN way n) t 7 r) P)):=fun W hl=>hW R r c P t W hl hg hf (by omega) (by omega) hp hs;have HRI:Hid (∀(W:World),zah W R way r (wm r P) c->Calls Tryz.prog 229 #[.pointer (some ⟨R,0,none⟩),.int .i64 t] W fun e w'=>e=.returned (.bool (zqi r.tab t))/\Below W.heap.size W w'):=fun W hl=>zkX hl hf h1 h6 (by omega) (by omega) hwd;have HWF:Hid (∀(W:World),zah W R way r (wm r P) c->Calls Tryz.prog 232 #[.pointer (some ⟨R,0,none⟩),.int .i64 t] W fun e w'=>∃v,e=.returned v/\zgO w' W.heap.size v (zaN r.tab t)/\Below W.heap.size W w'):=fun W hl=>zet hl hf hwf (by omega) (by omega);have HS:=zag (zbV.start h);have c0:=h.c0;have hRl:=h.lt;have HBW:=zag hbW;clear hA hW h hg hf ho hp hs hbW htb hwd;rcases hway with rfl | rfl | rfl
 ·have HE:Hid (zlN 0 (doN 0 n) r t=if zqi r.tab t=true then zco (doN 0 n) r t else r):=rfl;go_enter Tryz.func194,Tryz.ntmps194;go_wp2_with fail;refine(HRI.out _ (HS.out.below HBW.out).run).mono ?_;rintro e w1 ⟨rfl,hb1⟩;have HB1:Hid (Below w.heap.size w w1):=HBW.out.trans (hb1.mono HBW.out.size);have p0:w1.cell? ⟨w.heap.size,0,none⟩=some (.int .i64 t):=(hb1.cell (p:=⟨w.heap.size,0,none⟩) (by simp)).trans (by simp);clear hb1;cases hr:zqi r.tab t with
  | true =>rw[hr]at HE;have HE1:Hid (zlN 0 (doN 0 n) r t=zco (doN 0 n) r t):=HE.out;clear hr HE;go_wp2_with fail;refine(HA.out _ (HS.out.below HB1.out).run).mono ?_;rintro e w2 ⟨rfl,hst⟩;have HST:=zag hst;clear hst p0;go_wp2_with fail;go_end0;exact⟨rfl,by rw[HE1.out];exact zav.later HB1.out HST.out⟩
  | false =>rw[hr]at HE;have HE1:Hid (zlN 0 (doN 0 n) r t=r):=HE.out;clear hr HE;go_wp2_with fail;go_end0;exact⟨rfl,by rw[HE1.out];exact(HS.out.below HB1.out).done⟩
 ·have HE:Hid (zlN 1 (doN 1 n) r t=if((zaN r.tab t).any fun x=>decide (x<(t:Int)))=true then zco (doN 1 n) r t else r):=by
   show zlN _ _ _ _=_;unfold zlN;rw[if_neg (by decide),if_pos rfl];exact zzL _ _ _ (zk9 r.tab (t:Int))
  go_enter Tryz.func194,Tryz.ntmps194;go_wp2_with fail;refine(HWF.out _ (HS.out.below HBW.out).run).mono ?_;rintro e w1 ⟨v1,rfl,hi1,hb1⟩;have HB1:Hid (Below w.heap.size w w1):=HBW.out.trans (hb1.mono HBW.out.size);have p0:w1.cell? ⟨w.heap.size,0,none⟩=some (.int .i64 t):=(hb1.cell (p:=⟨w.heap.size,0,none⟩) (by simp)).trans (by simp);obtain⟨ad1,cp1,rfl,-⟩:=zad hi1;have HOA:=zag (zvI (zaN r.tab t) (.slice ad1 (zaN r.tab t).length cp1) t w.heap.size w1 hi1.ints hsix p0);clear hb1 hi1;go_wp2_with fail;refine HOA.out.mono ?_;rintro e w2 ⟨rfl,hb2⟩;have HB2:Hid (Below w.heap.size w w2):=HB1.out.trans (hb2.mono HB1.out.size);have p1:w2.cell? ⟨w.heap.size,0,none⟩=some (.int .i64 t):=(hb2.cell (p:=⟨w.heap.size,0,none⟩) (World.block_lt_of_cell? w1 _ p0)).trans p0;clear hb2 p0 HOA HB1;cases hr:(zaN r.tab t).any fun x=>decide (x<(t:Int))with
  | true =>rw[hr]at HE;have HE1:Hid (zlN 1 (doN 1 n) r t=zco (doN 1 n) r t):=HE.out;clear hr HE;go_wp2_with fail;refine(HA.out _ (HS.out.below HB2.out).run).mono ?_;rintro e w3 ⟨rfl,hst⟩;have HST:=zag hst;clear hst p1;go_wp2_with fail;go_end0;exact⟨rfl,by rw[HE1.out];exact zav.later HB2.out HST.out⟩
  | false =>rw[hr]at HE;have HE1:Hid (zlN 1 (doN 1 n) r t=r):=HE.out;clear hr HE;go_wp2_with fail;go_end0;exact⟨rfl,by rw[HE1.out];exact(HS.out.below HB2.out).done⟩
 ·have HE:Hid (zlN 2 (doN 2 n) r t=woundN (doN 2 n) t 7 r):=rfl;go_enter Tryz.func194,Tryz.ntmps194;go_wp2_with fail;refine(HWD.out _ (HS.out.below HBW.out).run).mono ?_;rintro e w1 ⟨rfl,hst⟩;have HST:=zag hst;clear hst;go_wp2_with fail;go_end0;exact⟨rfl,by rw[HE.out];exact zav.later HBW.out HST.out⟩
theorem zzZ{r:zat}{P:Int->Option Op3}{o:Op3}(hp:P o.1=none)(d:Int):wm (zc4 r o) P d=setF (wm r P) o.1 (some (zgA (zea o))) d:=by
 unfold wm zc4;by_cases e:d=o.1
 ·subst e;simp only[setF_same];rw[if_pos ⟨trivial,hp⟩]
 ·simp only[zaa _ _ e]
theorem zyZ{way:Int}(hway:way=0\/way=1\/way=2){n:Nat}(hD:DoL way n):DoL way (n+1):=by
 intro R r c P o w h hg hf hp hs ho hnw hop;have HF:=zag (zhU hD);have HAV:=zag (zqt hway (zjt (zhU hD)) (zrQ (zjt (zhU hD))));obtain⟨h1,h6⟩:=za1 hop;have hwhat:o.2.1=1\/o.2.1=2\/o.2.1=3\/o.2.1=4:=by simp[isOpB]at hop;omega
 have hP:=hf.idle ho hnw;have hol:¬3<=o.2.1->zak (zea o)=true:=fun ha=>zui hop ha;have hcalm:=hf.calm hnw;obtain⟨t,a,i⟩:=o;simp only at h1 h6 ho hnw hwhat hP hcalm;obtain⟨dt,rfl⟩:∃d:Nat,t=d:=⟨t.toNat,by omega⟩;have HG:Hid (zb5 r/\zbw r P/\pot r<=46/\sum6 r.behind<=n/\r.out (dt:Int)=false/\r.waits (dt:Int)=false):=⟨hg,hf,hp,by omega,ho,hnw⟩;have HTB:=zag (hg.tabs (by omega));have HDW:Hid (doN way (n+1) r ((dt:Int),a,i)=doW way (doN way n) r ((dt:Int),a,i)):=rfl;have HPN:=zag hP;have hRl:=h.lt;have hd1:1<=dt:=by omega
 have hd6:dt<=6:=by omega
 have HL:=zag h;clear hD hg hf hp hs ho hnw hop h h1 h6 hP;go_enter Tryz.func144,Tryz.ntmps144
 go_upto_region 1 with(fail)
 obtain⟨W,hW⟩:∃W,W=w.alloc (.cells #[.int .i64 (dt:Int),.int .i64 a,.int .i64 i] 103):=⟨_,rfl⟩;rw[<-hW];have hbx:zf2 W w.heap.size ((dt:Int),a,i):=by rw[hW];exact zfL _ _ _ _ _
 have hbW:Below w.heap.size w W:=by rw[hW];exact(Below.refl _ w).alloc (Nat.le_refl _) _
 obtain⟨Q,hQ⟩:∃Q,Q=w.heap.size:=⟨_,rfl⟩;have HQF:Hid (¬feet R c Q):=fun hk=>by have:=HL.out.feet_lt hk;omega
 have HSW:=zag ((zbV.start HL.out).below hbW);rw[<-hQ]at hbx ⊢;have HBX:=zag hbx;obtain⟨p0,p1,p2⟩:=hbx;simp only at p0 p1 p2;have hPW:Q<W.heap.size:=World.block_lt_of_cell? W _ p0;clear hW hbW hQ hRl;by_cases ha:3<=a
 ·have HE:Hid (doW way (doN way n) r ((dt:Int),a,i)=zgk (doN way n) { r with told:=r.told++[((dt:Int),a,i)] } (dt:Int)):=by show doW _ _ _ _=_;unfold doW;rw[if_pos ha]
  have ha34:a=3\/a=4:=by omega
  clear hol hcalm hwhat ha;rcases ha34 with rfl | rfl
  ·skip
   go_wp2_with fail;refine(tell_run ((dt:Int),3,i) HSW.out.run HTB.out.2.2.1).mono ?_;rintro e w1 ⟨rfl,hst1⟩;have htu1:zac (feet R c) W w1:=by obtain⟨_,_,h1,_⟩:=hst1;exact h1
   obtain⟨p0,p1,p2⟩:=HBX.out.turn htu1 HQF.out;simp only at p0 p1 p2;obtain⟨c1,hs1⟩:=HSW.out.step hst1;have HS1:=zag hs1;have HFB:=zag ((HG.out.2.1.told (r.told++[((dt:Int),3,i)])).but HG.out.2.2.2.2.2);have HFR:=zag (HF.out R { r with told:=r.told++[((dt:Int),3,i)] } (wm r P) c1 P (dt:Int) w1 HS1.out.run (fun _ _=>rfl) HFB.out (zfy (zho HG.out.1 _).1 _) HTB.out.1 HTB.out.2.1 (by omega) (by omega) (by rw[(zho HG.out.1 _).2];have:=HG.out.2.2.1;omega) HG.out.2.2.2.1);clear htu1 hst1 hs1;go_wp2_with fail;refine HFR.out.mono ?_;rintro e w2 ⟨rfl,hst2⟩;obtain⟨c2,hs2⟩:=HS1.out.step hst2;have HS2:=zag hs2;clear hst2 hs2 p0 p1 p2;go_wp2_with fail;refine bodyPost_ret (results_none Tryz.results144 _ _ _) rfl ⟨rfl,?_⟩;rw[HDW.out,HE.out];exact HS2.out.done
  ·skip
   go_wp2_with fail;refine(tell_run ((dt:Int),4,i) HSW.out.run HTB.out.2.2.1).mono ?_;rintro e w1 ⟨rfl,hst1⟩;have htu1:zac (feet R c) W w1:=by obtain⟨_,_,h1,_⟩:=hst1;exact h1
   obtain⟨p0,p1,p2⟩:=HBX.out.turn htu1 HQF.out;simp only at p0 p1 p2;obtain⟨c1,hs1⟩:=HSW.out.step hst1;have HS1:=zag hs1;have HFB:=zag ((HG.out.2.1.told (r.told++[((dt:Int),4,i)])).but HG.out.2.2.2.2.2);have HFR:=zag (HF.out R { r with told:=r.told++[((dt:Int),4,i)] } (wm r P) c1 P (dt:Int) w1 HS1.out.run (fun _ _=>rfl) HFB.out (zfy (zho HG.out.1 _).1 _) HTB.out.1 HTB.out.2.1 (by omega) (by omega) (by rw[(zho HG.out.1 _).2];have:=HG.out.2.2.1;omega) HG.out.2.2.2.1);clear htu1 hst1 hs1;go_wp2_with fail;refine HFR.out.mono ?_;rintro e w2 ⟨rfl,hst2⟩;obtain⟨c2,hs2⟩:=HS1.out.step hst2;have HS2:=zag hs2;clear hst2 hs2 p0 p1 p2;go_wp2_with fail;refine bodyPost_ret (results_none Tryz.results144 _ _ _) rfl ⟨rfl,?_⟩;rw[HDW.out,HE.out];exact HS2.out.done
 ·have ha12:((dt:Int),a,i).2.1=1\/((dt:Int),a,i).2.1=2:=by show a=1\/a=2;omega
  have hlk:=hol ha;have hna3:(a == 3)=false:=by simp;omega
  have hna4:(a == 4)=false:=by simp;omega
  have HLO:Hid (Calls Tryz.prog 192 #[.agg #[.int .i64 (dt:Int),.int .i64 a,.int .i64 i]] W fun e w'=>e=.returned (.agg #[.int .i64 (dt:Int),.int .i64 i,.int .i64 a])/\Below W.heap.size W w'):=zrS ((dt:Int),a,i) ha12 W;have HLK:=zag hlk;have HCM:=zag hcalm;have HNA:=zag ha;clear hol hcalm hwhat ha12 hlk;go_wp2_with fail;refine HLO.out.mono ?_;rintro e w1 ⟨rfl,hb1⟩;have HS1:=zag (HSW.out.below hb1);have HB1:=zag (HBX.out.below hb1);clear hb1 p0 p1 p2 hPW HSW HBX HLO ha
  go_upto_region 5 with(fail)
  obtain⟨V,hV⟩:∃V,V=w1.alloc (.cells #[.int .i64 (dt:Int),.int .i64 i,.int .i64 a] 269):=⟨_,rfl⟩;rw[<-hV];have hbV:Below w1.heap.size w1 V:=by rw[hV];exact(Below.refl _ w1).alloc (Nat.le_refl _) _
  have hbx2:zf2 V w1.heap.size ((dt:Int),i,a):=by rw[hV];exact zfL _ _ _ _ _
  obtain⟨Q2,hQ2⟩:∃Q,Q=w1.heap.size:=⟨_,rfl⟩;have HQ2:Hid (¬feet R c Q2):=fun hk=>by have:=HS1.out.run.feet_lt hk;omega
  have HSV:=zag (HS1.out.below hbV);have HBV:=zag (HB1.out.below hbV);rw[<-hQ2]at hbx2 ⊢;have HBY:=zag hbx2;obtain⟨q0,q1,q2⟩:=hbx2;simp only at q0 q1 q2;obtain⟨p0,p1,p2⟩:=HBV.out;simp only at p0 p1 p2;have hQV:Q2<V.heap.size:=World.block_lt_of_cell? V _ q0;have hPV:Q<V.heap.size:=World.block_lt_of_cell? V _ p0;have k1:=HSV.out.run.c1;clear hV hbV hQ2;obtain⟨F1,hask⟩:∃F1:Unit,True:=⟨(),trivial⟩
  have HASK:Hid (Calls Tryz.prog 193 #[.pointer (some ⟨c.T,0,none⟩),.agg #[.int .i64 (dt:Int),.int .i64 i,.int .i64 a]] V.drew fun e w'=>e=.returned (.tuple #[.bool (askT r.tab ((dt:Int),i,a)).1.1,.nilIface])/\zac (feet R c) V w'/\∃c2,(∀k,feet R c2 k->feet R c k\/V.heap.size<=k)/\zah w' R way { r with tab:=(askT r.tab ((dt:Int),i,a)).2 } (wm r P) c2):=by
   have hl0:=HSV.out.run.below (Below.refl _ V).drew;refine(locksQ.ask V.drew c.T c.F r.tab ((dt:Int),i,a) hl0.tab (by have:=HTB.out.1;omega) (by have:=HTB.out.2.1;omega)).mono ?_;rintro e w' ⟨rfl,F',h1,h2,h3⟩;obtain⟨c2,a1,a2,a3⟩:=hl0.setTab h1 h2 h3
   have he:(askT r.tab ((dt:Int),i,a)).1.2=0:=by
    rcases ask_new (s:=r.tab) (x:=((dt:Int),i,a)) HLK.out HCM.out with⟨_,_,h4⟩ | h4
    ·exact h4
    ·rw[h4]
   refine⟨by rw[he];rfl,⟨a2.os,a2.tape,a2.output,a2.size,a2.block⟩,c2,a3,a1⟩
  clear hask F1
  go_region_with (first | (go_at_call 193;refine HASK.out.mono ?_;rintro e w2 ⟨rfl,ht2,c2,hf2,hl2⟩))
  all_goals
   have HP2:=zag (HBV.out.turn ht2 HQF.out);have HY2:=zag (HBY.out.turn ht2 HQ2.out);have HS2:=zag (HSV.out.to hl2 ht2 hf2);have HNQ:Hid (¬feet R c2 Q/\¬feet R c2 Q2):=⟨fun hk=>(hf2 Q hk).elim HQF.out fun h=>by omega,fun hk=>(hf2 Q2 hk).elim HQ2.out fun h=>by omega⟩;clear ht2 hf2 hl2 q0 q1 q2 p0 p1 p2 k1 hQV hPV HASK HSV HBV HBY HS1 HB1;obtain⟨p0,p1,p2⟩:=HP2.out;obtain⟨q0,q1,q2⟩:=HY2.out;simp only at p0 p1 p2 q0 q1 q2;rcases ask_new (s:=r.tab) (x:=((dt:Int),i,a)) HLK.out HCM.out with⟨h4,h5,_⟩ | h4
   ·have HE:Hid (doW way (doN way n) r ((dt:Int),a,i)={ r with tab:=(askT r.tab ((dt:Int),i,a)).2,told:=r.told++[((dt:Int),a,i)] }):=by
     show doW _ _ _ _=_;unfold doW;rw[if_neg (show ¬(3:Int)<=a by have:=HNA.out;omega),if_pos (show(askT r.tab ((dt:Int),i,a)).1.1=true from h4)]
    rw[h4];clear h4 h5;go_wp2_with fail;refine(tell_run ((dt:Int),a,i) HS2.out.run HTB.out.2.2.1).mono ?_;rintro e w3 ⟨rfl,hst3⟩;obtain⟨c3,hs3⟩:=HS2.out.step hst3;have HS3:=zag hs3;clear hst3 hs3 p0 p1 p2 q0 q1 q2;go_wp2_with fail;refine bodyPost_ret (results_none Tryz.results144 _ _ _) rfl ⟨rfl,?_⟩;rw[HDW.out,HE.out];exact HS3.out.done
   ·have HE:Hid (doW way (doN way n) r ((dt:Int),a,i)=zlN way (doN way n) (zc4 r ((dt:Int),a,i)) (dt:Int)):=by
     show doW _ _ _ _=_;unfold doW;rw[if_neg (show ¬(3:Int)<=a by have:=HNA.out;omega),if_neg (show ¬(askT r.tab ((dt:Int),i,a)).1.1=true by rw[h4];simp)]
    have HFW:=zag (HG.out.2.1.wait (o:=((dt:Int),a,i)) HG.out.2.2.2.2.1 HG.out.2.2.2.2.2 HLK.out h4);obtain⟨hgw,hpw⟩:=zvC (o:=((dt:Int),a,i)) HG.out.1 HG.out.2.2.2.2.1 HG.out.2.2.2.2.2 (show(1:Int)<=(dt:Int)by omega) (show(dt:Int)<=6 by omega);have HGW:Hid (zb5 (zc4 r ((dt:Int),a,i))/\pot (zc4 r ((dt:Int),a,i))<=47):=⟨hgw,by have:=HG.out.2.2.1;omega⟩;rw[show(askT r.tab ((dt:Int),i,a)).1.1=false by rw[h4]];have k4:=HS2.out.run.c4;obtain⟨m4,hm4⟩:=HS2.out.run.wts;have hm4':zax w2.drew c2.W (wm r P) m4:=hm4;obtain⟨X,hup,hmX,htX⟩:=hm4'.store (v:=.agg #[.int .i64 (dt:Int),.int .i64 i,.int .i64 a]) Tryz.underlying149 (show(1:Int)<=(dt:Int)by omega) (show(dt:Int)<=6 by omega);have htX2:zac (fun k=>k=c2.W) w2 X:=⟨htX.os,htX.tape,htX.output,htX.size,htX.block⟩;have hWQ:c2.W≠Q:=fun e=>HNQ.out.1 ⟨4,by omega,e.symm⟩;have d0:X.cell? ⟨Q,0,none⟩=some (.int .i64 (dt:Int)):=(htX2.cell (p:=⟨Q,0,none⟩) (World.block_lt_of_cell? w2 _ p0) (Ne.symm hWQ)).trans p0;obtain⟨c3,hs3⟩:=HS2.out.step (HS2.out.run.setWts hmX htX2);have hwm:∀d,wm (zc4 r ((dt:Int),a,i)) P d=setF (wm r P) (dt:Int) (some (.agg #[.int .i64 (dt:Int),.int .i64 i,.int .i64 a])) d:=fun d=>zzZ (o:=((dt:Int),a,i)) HPN.out d;have HS3:Hid (zbV w X R way c (zc4 r ((dt:Int),a,i)) (wm (zc4 r ((dt:Int),a,i)) P) c3):=⟨(hs3.run.as (r1:=zc4 r ((dt:Int),a,i)) rfl rfl rfl rfl).congr hwm,hs3.turn,hs3.feet⟩;have HAW:=zag (HAV.out R (zc4 r ((dt:Int),a,i)) c3 P dt X HS3.out.run HGW.out.1 HFW.out hd1 hd6 HG.out.2.2.2.2.1 HGW.out.2 HG.out.2.2.2.1);have hRw:=HS2.out.run.lt;clear h4 hgw hpw hm4 hm4' hmX htX htX2 hWQ hs3 hwm HS2;go_wp2_with fail;go_region
    all_goals
     go_wp2_with fail;refine HAW.out.mono ?_;rintro e w4 ⟨rfl,hst4⟩;obtain⟨c4,hs4⟩:=HS3.out.step hst4;have HS4:=zag hs4;clear hst4 hs4 d0 p0 p1 p2 q0 q1 q2;go_wp2_with fail;go_end0;exact⟨rfl,by rw[HDW.out,HE.out];exact HS4.out.done⟩
theorem zxV{way:Int}(hway:way=0\/way=1\/way=2):∀n,DoL way n:=by
 intro n
 induction n with
 | zero=>intro R r c P o w _ _ _ _ hs;omega
 | succ n ih=>exact zyZ hway ih
end Go.Proofs.YthlhgiihngcobaaGreatDoor
