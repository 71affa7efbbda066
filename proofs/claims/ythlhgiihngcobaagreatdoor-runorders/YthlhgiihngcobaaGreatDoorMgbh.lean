/-
  PROVED HERE: slices.IndexFunc and slices.ContainsFunc over a slice of edges, for the two closures that package graph hands; slices.Index and slices.Contains on a row of bools.
  Conditions: none but those that each theorem's own premises say.
-/
import Derived.Test.YthlhgiihngcobaaGreatDoorMgaq
import Derived.Test.YthlhgiihngcobaaGreatDoorMgaw
set_option maxHeartbeats 32000000
set_option maxRecDepth 100000
namespace Go.Proofs.YthlhgiihngcobaaGreatDoor
open Go.RowKit
theorem zba{a b:Bool}(h:a=b):Ending.returned (.bool a)=.returned (.bool b):=by rw[h]
theorem zgz{q:zaa->Bool}{l:List zaa}{k:Nat}{e:zaa}(h:l.take (k+1)=l.take k++[e])(h1:(l.take k).any q=false)(h2:q e=false):(l.take (k+1)).any q=false:=by rw[h,List.any_append,h1];simp[h2]
theorem zh1{q:zaa->Bool}{l:List zaa}{e:zaa}(h:e∈l)(h2:q e=true):l.any q=true:=List.any_eq_true.2 ⟨e,h,h2⟩
theorem ziO(l:List zaa)(v:Value)(q:zaa->Bool)(p1 p2:Value)(w:World)(hI:zae w v l)(hlen:l.length<=140737488351)
  (hp:∀W:World,Below w.heap.size w W->∀e∈l,Calls Tryz.prog 182 #[.agg #[.int .i64 e.1,.int .i64 e.2],p1,p2] W fun r w'=>r=.returned (.bool (q e))/\Below W.heap.size W w') :
  Calls Tryz.prog 132 #[v,.func (.func 182) #[] #[p1,p2]] w fun r w'=>∃n:Int,r=.returned (.int .i64 n)/\(decide (0<=n)=l.any q)/\Below w.heap.size w w':=by
 obtain⟨ad,b,off,cap,rfl,ha,_,hbB,hops⟩:=hI;have HO:Hid (∀W,Below w.heap.size w W->∀k,k<l.length->ad=some ⟨b,off,none⟩/\W.cell? ⟨b,off+k*2,none⟩=some (.int .i64 (l.getD k (0,0)).1)/\W.cell? ⟨b,off+k*2+1,none⟩=some (.int .i64 (l.getD k (0,0)).2)):=fun W hW k hk=>⟨ha (by omega),(hops.below hW hbB) k hk⟩;have HP:Hid (∀W:World,Below w.heap.size w W->∀e∈l,Calls Tryz.prog 182 #[.agg #[.int .i64 e.1,.int .i64 e.2],p1,p2] W fun r w'=>r=.returned (.bool (q e))/\Below W.heap.size W w'):=hp;clear ha hbB hops hp;go_enter Tryz.func132,Tryz.ntmps132;go_wp2
 go_loopw [8] (fun v8 wr=>∃k:Nat,k<=l.length/\v8=.int .i64 k/\(l.take k).any q=false/\Below w.heap.size w wr) (fun v8 _=>l.length-(intOf v8).toNat)
 case atStart=>exact⟨0,Nat.zero_le _,rfl,by simp,Below.refl _ _⟩
 case round =>
  obtain⟨k,hk,rfl,hno,hbel⟩:=hrel;have HNO:Hid ((l.take k).any q=false):=hno;clear hno;have hsz:=hbel.size;by_cases hlt:k<l.length
  ·obtain⟨rfl,c0,c1⟩:=HO.out wr hbel k hlt;obtain⟨⟨t,a⟩,ho⟩:∃o:zaa,l.getD k (0,0)=o:=⟨_,rfl⟩;rw[ho]at c0 c1;have hmem:(t,a)∈l:=by rw[<-ho];simp[List.getD,List.getElem?_eq_getElem hlt]
   have HT:Hid (l.take (k+1)=l.take k++[(t,a)]):=by show l.take (k+1)=l.take k++[(t,a)];rw[List.take_succ_eq_append_getElem hlt,<-ho];simp[List.getD,List.getElem?_eq_getElem hlt]
   have HM:Hid ((t,a)∈l):=hmem;clear ho HO hmem;simp only at c0 c1;cases hq:q (t,a)with
   | false =>
     have HQ:Hid (q (t,a)=false):=hq;have HC:Hid (Calls Tryz.prog 182 #[.agg #[.int .i64 t,.int .i64 a],p1,p2] wr fun r w'=>r=.returned (.bool false)/\Below wr.heap.size wr w'):=hq ▸HP.out wr hbel _ HM.out;clear hq;go_wp2_with (go_at_call 182;refine HC.out.mono ?_;rintro e w1 ⟨rfl,hb1⟩);go_roundw
     case rel=>exact⟨k+1,by omega,by go_num,zgz HT.out HNO.out HQ.out,hbel.trans (hb1.mono hsz)⟩
     case measure=>simp[intOf];omega
   | true =>have HQ:Hid (q (t,a)=true):=hq;have HC:Hid (Calls Tryz.prog 182 #[.agg #[.int .i64 t,.int .i64 a],p1,p2] wr fun r w'=>r=.returned (.bool true)/\Below wr.heap.size wr w'):=hq ▸HP.out wr hbel _ HM.out;clear hq;go_wp2_with (go_at_call 182;refine HC.out.mono ?_;rintro e w1 ⟨rfl,hb1⟩);go_ret;exact⟨_,rfl,by rw[zh1 HM.out HQ.out];simp,hbel.trans (hb1.mono hsz)⟩
  ·go_wp2;go_ret;refine⟨_,rfl,?_,hbel⟩;have h0:=HNO.out;rw[List.take_of_length_le (by omega)]at h0;rw[h0];simp
theorem zft(l:List zaa)(v:Value)(q:zaa->Bool)(p1 p2:Value)(w:World)(hI:zae w v l)(hlen:l.length<=140737488351)
  (hp:∀W:World,Below w.heap.size w W->∀e∈l,Calls Tryz.prog 182 #[.agg #[.int .i64 e.1,.int .i64 e.2],p1,p2] W fun r w'=>r=.returned (.bool (q e))/\Below W.heap.size W w') :
  Calls Tryz.prog 72 #[v,.func (.func 182) #[] #[p1,p2]] w fun r w'=>r=.returned (.bool (l.any q))/\Below w.heap.size w w':=by
 have HC:Hid (Calls Tryz.prog 132 #[v,.func (.func 182) #[] #[p1,p2]] w fun r w'=>∃n:Int,r=.returned (.int .i64 n)/\(decide (0<=n)=l.any q)/\Below w.heap.size w w'):=ziO l v q p1 p2 w hI hlen hp;clear hp hI;go_enter Tryz.func72,Tryz.ntmps72;go_wp2_with (go_at_call 132;refine HC.out.mono ?_;rintro e w1 ⟨n,rfl,hn,hb1⟩);all_goals go_ret
 all_goals exact⟨zba (by simp_all),hb1⟩
theorem zgR(l:List zaa)(v:Value)(q:zaa->Bool)(w:World)(hI:zae w v l)(hlen:l.length<=140737488351)
  (hp:∀W:World,Below w.heap.size w W->∀e∈l,Calls Tryz.prog 179 #[.agg #[.int .i64 e.1,.int .i64 e.2]] W fun r w'=>r=.returned (.bool (q e))/\Below W.heap.size W w') :
  Calls Tryz.prog 132 #[v,.func (.func 179) #[] #[]] w fun r w'=>∃n:Int,r=.returned (.int .i64 n)/\(decide (0<=n)=l.any q)/\Below w.heap.size w w':=by
 obtain⟨ad,b,off,cap,rfl,ha,_,hbB,hops⟩:=hI;have HO:Hid (∀W,Below w.heap.size w W->∀k,k<l.length->ad=some ⟨b,off,none⟩/\W.cell? ⟨b,off+k*2,none⟩=some (.int .i64 (l.getD k (0,0)).1)/\W.cell? ⟨b,off+k*2+1,none⟩=some (.int .i64 (l.getD k (0,0)).2)):=fun W hW k hk=>⟨ha (by omega),(hops.below hW hbB) k hk⟩;have HP:Hid (∀W:World,Below w.heap.size w W->∀e∈l,Calls Tryz.prog 179 #[.agg #[.int .i64 e.1,.int .i64 e.2]] W fun r w'=>r=.returned (.bool (q e))/\Below W.heap.size W w'):=hp;clear ha hbB hops hp;go_enter Tryz.func132,Tryz.ntmps132;go_wp2
 go_loopw [8] (fun v8 wr=>∃k:Nat,k<=l.length/\v8=.int .i64 k/\(l.take k).any q=false/\Below w.heap.size w wr) (fun v8 _=>l.length-(intOf v8).toNat)
 case atStart=>exact⟨0,Nat.zero_le _,rfl,by simp,Below.refl _ _⟩
 case round =>
  obtain⟨k,hk,rfl,hno,hbel⟩:=hrel;have HNO:Hid ((l.take k).any q=false):=hno;clear hno;have hsz:=hbel.size;by_cases hlt:k<l.length
  ·obtain⟨rfl,c0,c1⟩:=HO.out wr hbel k hlt;obtain⟨⟨t,a⟩,ho⟩:∃o:zaa,l.getD k (0,0)=o:=⟨_,rfl⟩;rw[ho]at c0 c1;have hmem:(t,a)∈l:=by rw[<-ho];simp[List.getD,List.getElem?_eq_getElem hlt]
   have HT:Hid (l.take (k+1)=l.take k++[(t,a)]):=by show l.take (k+1)=l.take k++[(t,a)];rw[List.take_succ_eq_append_getElem hlt,<-ho];simp[List.getD,List.getElem?_eq_getElem hlt]
   have HM:Hid ((t,a)∈l):=hmem;clear ho HO hmem;simp only at c0 c1;cases hq:q (t,a)with
   | false =>
     have HQ:Hid (q (t,a)=false):=hq;have HC:Hid (Calls Tryz.prog 179 #[.agg #[.int .i64 t,.int .i64 a]] wr fun r w'=>r=.returned (.bool false)/\Below wr.heap.size wr w'):=hq ▸HP.out wr hbel _ HM.out;clear hq;go_wp2_with (go_at_call 179;refine HC.out.mono ?_;rintro e w1 ⟨rfl,hb1⟩);go_roundw
     case rel=>exact⟨k+1,by omega,by go_num,zgz HT.out HNO.out HQ.out,hbel.trans (hb1.mono hsz)⟩
     case measure=>simp[intOf];omega
   | true =>have HQ:Hid (q (t,a)=true):=hq;have HC:Hid (Calls Tryz.prog 179 #[.agg #[.int .i64 t,.int .i64 a]] wr fun r w'=>r=.returned (.bool true)/\Below wr.heap.size wr w'):=hq ▸HP.out wr hbel _ HM.out;clear hq;go_wp2_with (go_at_call 179;refine HC.out.mono ?_;rintro e w1 ⟨rfl,hb1⟩);go_ret;exact⟨_,rfl,by rw[zh1 HM.out HQ.out];simp,hbel.trans (hb1.mono hsz)⟩
  ·go_wp2;go_ret;refine⟨_,rfl,?_,hbel⟩;have h0:=HNO.out;rw[List.take_of_length_le (by omega)]at h0;rw[h0];simp
theorem zeQ(l:List zaa)(v:Value)(q:zaa->Bool)(w:World)(hI:zae w v l)(hlen:l.length<=140737488351)
  (hp:∀W:World,Below w.heap.size w W->∀e∈l,Calls Tryz.prog 179 #[.agg #[.int .i64 e.1,.int .i64 e.2]] W fun r w'=>r=.returned (.bool (q e))/\Below W.heap.size W w') :
  Calls Tryz.prog 72 #[v,.func (.func 179) #[] #[]] w fun r w'=>r=.returned (.bool (l.any q))/\Below w.heap.size w w':=by
 have HC:Hid (Calls Tryz.prog 132 #[v,.func (.func 179) #[] #[]] w fun r w'=>∃n:Int,r=.returned (.int .i64 n)/\(decide (0<=n)=l.any q)/\Below w.heap.size w w'):=zgR l v q w hI hlen hp;clear hp hI;go_enter Tryz.func72,Tryz.ntmps72;go_wp2_with (go_at_call 132;refine HC.out.mono ?_;rintro e w1 ⟨n,rfl,hn,hb1⟩);all_goals go_ret
 all_goals exact⟨zba (by simp_all),hb1⟩
theorem isDeal_any(t:Int)(w:World):Calls Tryz.prog 180 #[.int .i64 t] w fun e w'=>e=.returned (.bool (zeI t))/\w'=w:=by
 go_enter Tryz.func180,Tryz.ntmps180;go_wp2;all_goals go_ret
 all_goals exact⟨zba (by simp_all [zeI] <;> omega),rfl⟩
theorem zju(e:zaa)(w:World):Calls Tryz.prog 179 #[.agg #[.int .i64 e.1,.int .i64 e.2]] w fun r w'=>r=.returned (.bool (zcd e))/\Below w.heap.size w w':=by
 obtain⟨t,a⟩:=e;have HW:Hid (zcd (t,a)=(!zeI t || !zeI a)):=rfl;have hb:Below w.heap.size w (w.alloc (.cells #[.int .i64 t,.int .i64 a] 131)):=(Below.refl _ w).alloc (Nat.le_refl _) _;cases h1:zeI t with
 | false =>go_enter Tryz.func179,Tryz.ntmps179;go_wp2_with (go_at_call 180;refine(isDeal_any _ _).mono ?_;rintro e w' ⟨rfl,rfl⟩;rw[h1]);go_ret;exact⟨zba (by rw[HW.out,h1];rfl),hb⟩
 | true =>go_enter Tryz.func179,Tryz.ntmps179;go_wp2_with fail;refine(isDeal_any _ _).mono ?_;rintro e w' ⟨rfl,hw⟩;rw[hw,h1];clear hw;go_wp2_with fail;refine(isDeal_any _ _).mono ?_;rintro e w' ⟨rfl,hw⟩;rw[hw];clear hw;go_wp2;go_ret;exact⟨zba (by rw[HW.out,h1];rfl),hb⟩
def zoD(n:Int):Value:=if n=0 then .nilIface else .iface 80 (.int .i64 n)
theorem ziZ(l:List zaa)(v:Value)(w:World)(hI:zae w v l):Calls Tryz.prog 112 #[v] w fun e w'=>e=.returned (zoD (gchk l))/\Below w.heap.size w w':=by
 have HI:Hid (zae w v l):=hI;obtain⟨ad,b,off,cap,rfl,-,-,-,-⟩:=hI;by_cases hl:60<l.length
 ·have HG:Hid (gchk l=4):=by show gchk l=4;unfold gchk;rw[if_pos hl]
  have hl':(60:Int)<(l.length:Int):=by omega
  go_enter Tryz.func112,Tryz.ntmps112;go_wp2_with fail;go_ret;exact⟨by rw[HG.out];rfl,Below.refl _ _⟩
 ·have HC:Hid (Calls Tryz.prog 72 #[.slice ad l.length cap,.func (.func 179) #[] #[]] w fun r w'=>r=.returned (.bool (l.any zcd))/\Below w.heap.size w w'):=zeQ l _ zcd w HI.out (by omega) fun W _ e _=>zju e W;have hl':¬(60:Int)<(l.length:Int):=by omega
  have HG:Hid (gchk l=if l.any zcd=true then 1 else 0):=by show gchk l=_;unfold gchk;rw[if_neg hl]
  clear hl;obtain⟨x,hx⟩:∃x,l.any zcd=x:=⟨_,rfl⟩;have HX:Hid (l.any zcd=x):=hx;clear hx;go_enter Tryz.func112,Tryz.ntmps112;go_wp2_with fail;refine HC.out.mono ?_;rintro e w1 ⟨rfl,hb1⟩;rw[HX.out];cases x with
  | false =>go_wp2_with fail;go_ret;exact⟨by rw[HG.out,HX.out];rfl,hb1⟩
  | true =>go_wp2_with fail;go_ret;exact⟨by rw[HG.out,HX.out];rfl,hb1⟩
end Go.Proofs.YthlhgiihngcobaaGreatDoor
namespace Go.Proofs.YthlhgiihngcobaaGreatDoor
open Go.RowKit
def zdP(w:World)(p:Nat)(t:Int):Prop:=w.cell? ⟨p,0,none⟩=some (.int .i64 t)/\w.frozen? ⟨p,0,none⟩=false
theorem zdP.lt{w:World}{p:Nat}{t:Int}(h:zdP w p t):p<w.heap.size:=by have:=World.block_lt_of_cell? w _ h.1;simpa using this
theorem zdP.below{w w1:World}{p B:Nat}{t:Int}(h:zdP w p t)(hb:Below B w w1)(hB:p<B):zdP w1 p t:=by unfold zdP;rw[hb.cell (p:=⟨p,0,none⟩) hB,hb.frozen (p:=⟨p,0,none⟩) hB];exact h
theorem zfm(w:World)(x:Int)(t:Nat)(h:x=t):zdP (w.alloc (.cells #[.int .i64 x] 3)) w.heap.size t:=by subst h;simp[zdP]
def znY(v:Value)(w:World):Nat:=match v with
 | .pointer (some a)=>(match w.cell? a with
   | some (.int _ i)=>i.toNat
   | _=>0)
 | _=>0
theorem zmh{a:Addr}{w:World}{t:Nat}(h:w.cell? a=some (.int .i64 t)):znY (.pointer (some a)) w=t:=by simp[znY,h]
theorem zhT{a c:Addr}{w w1:World}{t:Nat}(h:w.cell? a=some (.int .i64 t))(h1:w1.cell? c=some (.int .i64 ((t+1:Nat):Int)))(ht:t<7):7-znY (.pointer (some c)) w1<7-znY (.pointer (some a)) w:=by rw[zmh h,zmh h1];omega
theorem zis{s:zaK}{k:Nat}(h:(List.range k).any s=false)(h1:s k=false):(List.range (k+1)).any s=false:=by rw[List.range_succ,List.any_append,h];simp[h1]
theorem zkS{s:zaK}{k n:Nat}(hk:k<n)(h:s k=true):(List.range n).any s=true:=List.any_eq_true.2 ⟨k,List.mem_range.2 hk,h⟩
theorem zgT(s:zaK)(b cap:Nat)(w:World)(h:zag w b 7 s):Calls Tryz.prog 181 #[.slice (some ⟨b,0,none⟩) 7 cap,.bool true] w fun e w'=>∃n:Int,e=.returned (.int .i64 n)/\decide (0<=n)=zb4 s/\Below w.heap.size w w':=by
 have HB:Hid (zag w b 7 s):=h;have hbl:=h.lt (by omega);clear h;go_enter Tryz.func181,Tryz.ntmps181;go_wp2
 go_loopw [8] (fun v8 wr=>∃k:Nat,k<=7/\v8=.int .i64 k/\(List.range k).any s=false/\Below w.heap.size w wr) (fun v8 _=>7-(intOf v8).toNat)
 case atStart=>exact⟨0,by omega,rfl,rfl,Below.refl _ _⟩
 case round =>
  obtain⟨k,hk,rfl,hno,hbel⟩:=hrel;have HNO:Hid ((List.range k).any s=false):=hno;clear hno;by_cases hlt:k<7
  ·have c0:=((HB.out.below hbel hbl) k hlt).1;have hk7:(k:Int)<7:=by omega
   cases hq:s k with
   | false =>
     rw[hq]at c0;have HQ:Hid (s k=false):=hq;clear hq;go_wp2;go_roundw
     case rel=>exact⟨k+1,by omega,by go_num,zis HNO.out HQ.out,hbel⟩
     case measure=>simp[intOf];omega
   | true =>rw[hq]at c0;have HQ:Hid (zb4 s=true):=zkS hlt hq;clear hq;go_wp2;go_ret;exact⟨_,rfl,by rw[HQ.out];simp,hbel⟩
  ·have HQ:Hid (zb4 s=false):=by
    have h0:=HNO.out;rw[show k=7 by omega]at h0;exact h0
   have hk7:¬(k:Int)<7:=by omega
   go_wp2;go_ret;exact⟨_,rfl,by rw[HQ.out];rfl,hbel⟩
theorem contains_bools(s:zaK)(b cap:Nat)(w:World)(h:zag w b 7 s):Calls Tryz.prog 114 #[.slice (some ⟨b,0,none⟩) 7 cap,.bool true] w fun e w'=>e=.returned (.bool (zb4 s))/\Below w.heap.size w w':=by
 have HC:=zgT s b cap w h;clear h;go_enter Tryz.func114,Tryz.ntmps114;go_wp2_with (go_at_call 181;refine HC.mono ?_;rintro e w1 ⟨n,rfl,hn,hb1⟩);all_goals go_ret
 all_goals exact⟨zba (by simp_all),hb1⟩
theorem zjZ(e:zaa)(t:Nat)(s:zaK)(p q:Nat)(w:World)(hp:zdP w p t)(hq:zag w q 7 s)(he:1<=e.1/\e.1<=6):Calls Tryz.prog 182 #[.agg #[.int .i64 e.1,.int .i64 e.2],.pointer (some ⟨p,0,none⟩),.pointer (some ⟨q,0,none⟩)] w fun r w'=>r=.returned (.bool (holdB s t e))/\Below w.heap.size w w':=by
 obtain⟨x,y⟩:=e;obtain⟨x,rfl⟩:∃n:Nat,x=n:=⟨x.toNat,by simp only at he;omega⟩;simp only at he;have HH:Hid (holdB s t ((x:Int),y)=(y == (t:Int) && s x)):=by show holdB s t ((x:Int),y)=_;simp[holdB]
 have hb:Below w.heap.size w (w.alloc (.cells #[.int .i64 x,.int .i64 y] 131)):=(Below.refl _ w).alloc (Nat.le_refl _) _;have c0:=hp.1;have hpl:=hp.lt;have c1:=(hq x (by omega)).1;have hql:=hq.lt (by omega);have hx7:(x:Int)<7:=by omega
 clear hp hq;cases hy:(y == (t:Int))with
 | false =>go_enter Tryz.func182,Tryz.ntmps182;go_wp2;go_ret;exact⟨zba (by rw[HH.out,hy];rfl),hb⟩
 | true =>go_enter Tryz.func182,Tryz.ntmps182;go_wp2;go_ret;exact⟨zba (by rw[HH.out,hy];rfl),hb⟩
theorem zlH(l:List zaa)(v:Value)(s:zaK)(w:World)(hI:zae w v l)(hd:∀e∈l,(1<=e.1/\e.1<=6)/\(1<=e.2/\e.2<=6))(hl:l.length<=60):Calls Tryz.prog 115 #[v,.agg #[.bool (s 0),.bool (s 1),.bool (s 2),.bool (s 3),.bool (s 4),.bool (s 5),.bool (s 6)]] w fun e w'=>e=.returned (.int .i64 (nextN l s))/\Below w.heap.size w w':=by
 have HI:Hid (∀W,Below w.heap.size w W->zae W v l):=fun W hW=>hI.below hW (Nat.le_refl _);have HV:Hid (∃ad n c,v=.slice ad n c):=by obtain⟨ad,b,off,cap,rfl,_⟩:=hI;exact⟨_,_,_,rfl⟩
 obtain⟨ad,vn,vc,rfl⟩:=HV.out;have HD:Hid (∀e∈l,(1<=e.1/\e.1<=6)/\(1<=e.2/\e.2<=6)):=hd;clear hI hd HV;go_enter Tryz.func115,Tryz.ntmps115;go_wp2
 go_loopw [5] (fun v5 wr=>∃t p:Nat,1<=t/\t<=7/\v5=.pointer (some ⟨p,0,none⟩)/\zdP wr p t/\w.heap.size<p/\zag wr w.heap.size 7 s/\Below w.heap.size w wr/\(∀j,1<=j->j<t->zau l s j=false)) (fun v5 wr=>7-znY v5 wr)
 case atStart =>have hA:Below w.heap.size w (w.alloc (.cells #[.bool (s 0),.bool (s 1),.bool (s 2),.bool (s 3),.bool (s 4),.bool (s 5),.bool (s 6)] 194)):=(Below.refl _ w).alloc (Nat.le_refl _) _;exact⟨1,w.heap.size+1,by omega,by omega,rfl,by simp[zdP],by omega,(zbC w s _).alloc _,hA.alloc (by simp) _,fun j h1 h2=>absurd h1 (by omega)⟩
 case round =>
  obtain⟨t,p,ht1,ht7,rfl,hn,hpl,hs,hbel,hno⟩:=hrel;have HNO:Hid (∀j,1<=j->j<t->zau l s j=false):=hno;have HS:Hid (zag wr w.heap.size 7 s):=hs;have HN:Hid (zdP wr p t):=hn;have hpr:=hn.lt;obtain⟨n0,n1⟩:=hn;have hsz:=hbel.size;clear hno hs;by_cases hlt:t<7
  ·have ht6:(t:Int)<=6:=by omega
   have hti:(t:Int)<7:=by omega
   have c0:=(HS.out t hlt).1;cases hq:s t with
   | false =>
     have HF:Hid (zau l s t=false):=by show zau l s t=false;unfold zau;rw[hq];rfl
     rw[hq]at c0;clear hq;go_wp2;go_roundw
     case rel=>exact⟨t+1,wr.heap.size,by omega,by omega,rfl,zfm _ _ _ (by omega),by omega,HS.out.alloc _,hbel.alloc hsz _,fun j h1 h2=>by
      rcases Nat.lt_or_ge j t with h | h
      ·exact HNO.out j h1 h
      ·rw[show j=t by omega];exact HF.out⟩
     case measure=>exact zhT n0 (zfm _ _ _ rfl).1 (by omega)
   | true =>
     rw[hq]at c0;have HC:Hid (Calls Tryz.prog 72 #[.slice ad vn vc,.func (.func 182) #[] #[.pointer (some ⟨p,0,none⟩),.pointer (some ⟨w.heap.size,0,none⟩)]] wr fun r w'=>r=.returned (.bool (l.any (holdB s t)))/\Below wr.heap.size wr w'):=zft l _ (holdB s t) _ _ wr (HI.out _ hbel) (by omega) fun W hW e he=>zjZ e t s p w.heap.size W (HN.out.below hW hpr) (HS.out.below hW (by omega)) (HD.out e he).1;have HE:Hid (zau l s t=!l.any (holdB s t)):=by show zau l s t=_;unfold zau;rw[hq];rfl
     clear hq;go_wp2_with fail;refine HC.out.mono ?_;rintro e w1 ⟨rfl,hb1⟩;have m0:=(HN.out.below hb1 hpr).1;have hs1:=hb1.size;have hB1:=hbel.trans (hb1.mono hsz);cases ha:l.any (holdB s t)with
     | false =>have HR:Hid (nextN l s=t):=zc5 ht1 (by omega) (by rw[HE.out,ha];rfl) HNO.out;go_wp2;go_ret;exact⟨by rw[HR.out];rfl,hB1⟩
     | true =>
       have HF:Hid (zau l s t=false):=by show zau l s t=false;rw[HE.out,ha];rfl
       clear ha;have hp1:p<w1.heap.size:=by omega
       go_wp2;go_roundw
       case rel=>exact⟨t+1,w1.heap.size,by omega,by omega,rfl,zfm _ _ _ (by omega),by omega,(HS.out.below hb1 (by omega)).alloc _,hB1.alloc hB1.size _,fun j h1 h2=>by
        rcases Nat.lt_or_ge j t with h | h
        ·exact HNO.out j h1 h
        ·rw[show j=t by omega];exact HF.out⟩
       case measure=>exact zhT n0 (zfm _ _ _ rfl).1 (by omega)
  ·have ht6:¬(t:Int)<=6:=by omega
   have HR:Hid (nextN l s=0):=zfY fun j h1 h2=>HNO.out j h1 (by omega);go_wp2;go_ret;exact⟨by rw[HR.out];rfl,hbel⟩
end Go.Proofs.YthlhgiihngcobaaGreatDoor
