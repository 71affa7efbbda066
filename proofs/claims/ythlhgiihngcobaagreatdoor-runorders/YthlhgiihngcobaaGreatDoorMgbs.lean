/-
  PROVED HERE: slices.IndexFunc and slices.ContainsFunc of edges, for any closure; slices.IndexFunc and slices.ContainsFunc over a slice of sources or of edges, slices.DeleteFunc over sources.
  Conditions: none but those that each theorem's own premises say.
-/
import Derived.Test.YthlhgiihngcobaaGreatDoorMgai
import Derived.Test.YthlhgiihngcobaaGreatDoorMgap
import Derived.Test.YthlhgiihngcobaaGreatDoorMgaj
import Derived.Laws.AppendOwn
import Derived.Deep.Cut
set_option maxHeartbeats 32000000
set_option maxRecDepth 100000
namespace Go.Proofs.YthlhgiihngcobaaGreatDoor
open Go.RowKit
def edV(x:zaa):Value:=.agg #[.int .i64 x.1,.int .i64 x.2]
theorem zgK{q:zaa->Bool}{l:List zaa}{k:Nat}{e:zaa}(h:l.take (k+1)=l.take k++[e])(h1:(l.take k).any q=false)(h2:q e=false):(l.take (k+1)).any q=false:=by rw[h,List.any_append,h1];simp[h2]
def zbA(l:List zaa)(q:zaa->Bool)(n:Int):Prop:=(n=-1/\l.any q=false)\/∃k:Nat,n=k/\k<l.length/\q (l.getD k (0,0))=true/\(l.take k).any q=false
theorem zgt{l:List zaa}{k:Nat}(h:k<l.length):l.getD k (0,0)∈l:=by simp[List.getD,h]
theorem zbA.sign{l:List zaa}{q:zaa->Bool}{n:Int}(h:zbA l q n):decide (0<=n)=l.any q:=by
 rcases h with⟨rfl,h⟩ | ⟨k,rfl,hk,hq,_⟩
 ·rw[h];rfl
 ·have:l.any q=true:=List.any_eq_true.2 ⟨_,zgt hk,hq⟩;rw[this];simp
theorem zbA.none{l:List zaa}{q:zaa->Bool}(h:l.any q=false):zbA l q (-1):=.inl ⟨rfl,h⟩
theorem zbA.some{l:List zaa}{q:zaa->Bool}{k:Nat}{e:zaa}(hk:k<l.length)(he:l.getD k (0,0)=e)(hq:q e=true)(h:(l.take k).any q=false):zbA l q (k:Int):=.inr ⟨k,rfl,hk,by rw[he];exact hq,h⟩
theorem ziI(l:List zaa)(v:Value)(q:zaa->Bool)(N:Nat)(C:Array Value)(w:World)(hcall:∀(args:Array Value) (W:World),(callFunc N args).run Tryz.prog W=.ok (.enter N args) W)(hI:zae w v l)(hlen:l.length<=140737488351)
  (hp:∀W:World,Below w.heap.size w W->∀e∈l,Calls Tryz.prog N (#[edV e]++C) W fun r w'=>r=.returned (.bool (q e))/\Below W.heap.size W w') :
  Calls Tryz.prog 132 #[v,.func (.func N) #[] C] w fun r w'=>∃n:Int,r=.returned (.int .i64 n)/\zbA l q n/\Below w.heap.size w w':=by
 obtain⟨ad,b,off,cap,rfl,ha,_,hbB,hops⟩:=hI;have HO:Hid (∀W,Below w.heap.size w W->∀k,k<l.length->ad=some ⟨b,off,none⟩/\W.cell? ⟨b,off+k*2,none⟩=some (.int .i64 (l.getD k (0,0)).1)/\W.cell? ⟨b,off+k*2+1,none⟩=some (.int .i64 (l.getD k (0,0)).2)):=fun W hW k hk=>⟨ha (by omega),(hops.below hW hbB) k hk⟩;have HP:Hid (∀W:World,Below w.heap.size w W->∀e∈l,Calls Tryz.prog N (#[edV e]++C) W fun r w'=>r=.returned (.bool (q e))/\Below W.heap.size W w'):=hp;clear ha hbB hops hp;go_enter Tryz.func132,Tryz.ntmps132;go_wp2
 go_loopw [8] (fun v8 wr=>∃k:Nat,k<=l.length/\v8=.int .i64 k/\(l.take k).any q=false/\Below w.heap.size w wr) (fun v8 _=>l.length-(intOf v8).toNat)
 case atStart=>exact⟨0,Nat.zero_le _,rfl,by simp,Below.refl _ _⟩
 case round =>
  obtain⟨k,hk,rfl,hno,hbel⟩:=hrel;have HNO:Hid ((l.take k).any q=false):=hno;clear hno;have hsz:=hbel.size;by_cases hlt:k<l.length
  ·have hlt':(k:Int)<(l.length:Int):=by omega
   obtain⟨rfl,c0,c1⟩:=HO.out wr hbel k hlt;obtain⟨⟨t,a⟩,ho⟩:∃o:zaa,l.getD k (0,0)=o:=⟨_,rfl⟩;rw[ho]at c0 c1;have hmem:(t,a)∈l:=by rw[<-ho];exact zgt hlt
   have HT:Hid (l.take (k+1)=l.take k++[(t,a)]):=by show l.take (k+1)=l.take k++[(t,a)];rw[List.take_succ_eq_append_getElem hlt,<-ho];simp[List.getD,List.getElem?_eq_getElem hlt]
   have HM:Hid ((t,a)∈l):=hmem;have HG:Hid (l.getD k (0,0)=(t,a)):=ho;clear ho HO hmem;simp only at c0 c1;cases hq:q (t,a)with
   | false =>
     have HQ:Hid (q (t,a)=false):=hq;have HC:Hid (Calls Tryz.prog N (#[.agg #[.int .i64 t,.int .i64 a]]++C) wr fun r w'=>r=.returned (.bool false)/\Below wr.heap.size wr w'):=hq ▸HP.out wr hbel _ HM.out;clear hq;go_wp2_with fail;refine HC.out.mono ?_;rintro e w1 ⟨rfl,hb1⟩;go_wp2_with fail;go_roundw
     case rel=>exact⟨k+1,by omega,by go_num,zgK HT.out HNO.out HQ.out,hbel.trans (hb1.mono hsz)⟩
     case measure=>simp[intOf];omega
   | true =>have HQ:Hid (q (t,a)=true):=hq;have HC:Hid (Calls Tryz.prog N (#[.agg #[.int .i64 t,.int .i64 a]]++C) wr fun r w'=>r=.returned (.bool true)/\Below wr.heap.size wr w'):=hq ▸HP.out wr hbel _ HM.out;clear hq;go_wp2_with fail;refine HC.out.mono ?_;rintro e w1 ⟨rfl,hb1⟩;go_wp2_with fail;go_ret;exact⟨_,rfl,zbA.some hlt HG.out HQ.out HNO.out,hbel.trans (hb1.mono hsz)⟩
  ·have hlt':¬(k:Int)<(l.length:Int):=by omega
   go_wp2_with fail;go_ret;refine⟨_,rfl,zbA.none ?_,hbel⟩;have h0:=HNO.out;rw[List.take_of_length_le (by omega)]at h0;exact h0
theorem zcS(l:List zaa)(v:Value)(q:zaa->Bool)(N:Nat)(C:Array Value)(w:World)(hcall:∀(args:Array Value) (W:World),(callFunc N args).run Tryz.prog W=.ok (.enter N args) W)(hI:zae w v l)(hlen:l.length<=140737488351)
  (hp:∀W:World,Below w.heap.size w W->∀e∈l,Calls Tryz.prog N (#[edV e]++C) W fun r w'=>r=.returned (.bool (q e))/\Below W.heap.size W w') :
  Calls Tryz.prog 72 #[v,.func (.func N) #[] C] w fun r w'=>r=.returned (.bool (l.any q))/\Below w.heap.size w w':=by
 have HC:Hid (Calls Tryz.prog 132 #[v,.func (.func N) #[] C] w fun r w'=>∃n:Int,r=.returned (.int .i64 n)/\zbA l q n/\Below w.heap.size w w'):=ziI l v q N C w hcall hI hlen hp;clear hp hI hcall;go_enter Tryz.func72,Tryz.ntmps72;go_wp2_with (go_at_call 132;refine HC.out.mono ?_;rintro e w1 ⟨n,rfl,hn,hb1⟩;have hn1:=hn.sign;clear hn);all_goals go_ret
 all_goals exact⟨zbP (by simp_all),hb1⟩
end Go.Proofs.YthlhgiihngcobaaGreatDoor
namespace Go.Proofs.YthlhgiihngcobaaGreatDoor
open Go.RowKit
theorem zjL{q:zaa->Bool}{l:List zaa}{k:Nat}{e:zaa}(h:l.take (k+1)=l.take k++[e])(h1:(l.take k).any q=false)(h2:q e=false):(l.take (k+1)).any q=false:=by rw[h,List.any_append,h1];simp[h2]
def zbo(l:List zaa)(q:zaa->Bool)(n:Int):Prop:=(n=-1/\l.any q=false)\/∃k:Nat,n=k/\k<l.length/\q (l.getD k (0,0))=true/\(l.take k).any q=false
theorem zbo.sign{l:List zaa}{q:zaa->Bool}{n:Int}(h:zbo l q n):decide (0<=n)=l.any q:=by
 rcases h with⟨rfl,h⟩ | ⟨k,rfl,hk,hq,_⟩
 ·rw[h];rfl
 ·have:l.any q=true:=List.any_eq_true.2 ⟨_,by simp[List.getD,List.getElem?_eq_getElem hk],hq⟩;rw[this];simp
theorem zbo.none{l:List zaa}{q:zaa->Bool}(h:l.any q=false):zbo l q (-1):=.inl ⟨rfl,h⟩
theorem zbo.some{l:List zaa}{q:zaa->Bool}{k:Nat}{e:zaa}(hk:k<l.length)(he:l.getD k (0,0)=e)(hq:q e=true)(h:(l.take k).any q=false):zbo l q (k:Int):=.inr ⟨k,rfl,hk,by rw[he];exact hq,h⟩
theorem zfT(l:List zaa)(v:Value)(q:zaa->Bool)(N:Nat)(C:Array Value)(w:World)(hcall:∀(args:Array Value) (W:World),(callFunc N args).run Tryz.prog W=.ok (.enter N args) W)(hI:zae w v l)(hlen:l.length<=140737488351)
  (hp:∀W:World,Below w.heap.size w W->∀e∈l,Calls Tryz.prog N (#[.agg #[.int .i64 e.1,.int .i64 e.2]]++C) W fun r w'=>r=.returned (.bool (q e))/\Below W.heap.size W w') :
  Calls Tryz.prog 129 #[v,.func (.func N) #[] C] w fun r w'=>∃n:Int,r=.returned (.int .i64 n)/\zbo l q n/\Below w.heap.size w w':=by
 obtain⟨ad,b,off,cap,rfl,ha,_,hbB,hops⟩:=hI;have HO:Hid (∀W,Below w.heap.size w W->∀k,k<l.length->ad=some ⟨b,off,none⟩/\W.cell? ⟨b,off+k*2,none⟩=some (.int .i64 (l.getD k (0,0)).1)/\W.cell? ⟨b,off+k*2+1,none⟩=some (.int .i64 (l.getD k (0,0)).2)):=fun W hW k hk=>⟨ha (by omega),(hops.below hW hbB) k hk⟩;have HP:Hid (∀W:World,Below w.heap.size w W->∀e∈l,Calls Tryz.prog N (#[.agg #[.int .i64 e.1,.int .i64 e.2]]++C) W fun r w'=>r=.returned (.bool (q e))/\Below W.heap.size W w'):=hp;clear ha hbB hops hp;go_enter Tryz.func129,Tryz.ntmps129;go_wp2
 go_loopw [8] (fun v8 wr=>∃k:Nat,k<=l.length/\v8=.int .i64 k/\(l.take k).any q=false/\Below w.heap.size w wr) (fun v8 _=>l.length-(intOf v8).toNat)
 case atStart=>exact⟨0,Nat.zero_le _,rfl,by simp,Below.refl _ _⟩
 case round =>
  obtain⟨k,hk,rfl,hno,hbel⟩:=hrel;have HNO:Hid ((l.take k).any q=false):=hno;clear hno;have hsz:=hbel.size;by_cases hlt:k<l.length
  ·have hlt':(k:Int)<(l.length:Int):=by omega
   obtain⟨rfl,c0,c1⟩:=HO.out wr hbel k hlt;obtain⟨⟨t,a⟩,ho⟩:∃o:zaa,l.getD k (0,0)=o:=⟨_,rfl⟩;rw[ho]at c0 c1;have hmem:(t,a)∈l:=by rw[<-ho];simp[List.getD,List.getElem?_eq_getElem hlt]
   have HT:Hid (l.take (k+1)=l.take k++[(t,a)]):=by show l.take (k+1)=l.take k++[(t,a)];rw[List.take_succ_eq_append_getElem hlt,<-ho];simp[List.getD,List.getElem?_eq_getElem hlt]
   have HM:Hid ((t,a)∈l):=hmem;have HG:Hid (l.getD k (0,0)=(t,a)):=ho;clear ho HO hmem;simp only at c0 c1;cases hq:q (t,a)with
   | false =>
     have HQ:Hid (q (t,a)=false):=hq;have HC:Hid (Calls Tryz.prog N (#[.agg #[.int .i64 t,.int .i64 a]]++C) wr fun r w'=>r=.returned (.bool false)/\Below wr.heap.size wr w'):=hq ▸HP.out wr hbel _ HM.out;clear hq;go_wp2_with fail;refine HC.out.mono ?_;rintro e w1 ⟨rfl,hb1⟩;go_wp2_with fail;go_roundw
     case rel=>exact⟨k+1,by omega,by go_num,zjL HT.out HNO.out HQ.out,hbel.trans (hb1.mono hsz)⟩
     case measure=>simp[intOf];omega
   | true =>have HQ:Hid (q (t,a)=true):=hq;have HC:Hid (Calls Tryz.prog N (#[.agg #[.int .i64 t,.int .i64 a]]++C) wr fun r w'=>r=.returned (.bool true)/\Below wr.heap.size wr w'):=hq ▸HP.out wr hbel _ HM.out;clear hq;go_wp2_with fail;refine HC.out.mono ?_;rintro e w1 ⟨rfl,hb1⟩;go_wp2_with fail;go_ret;exact⟨_,rfl,zbo.some hlt HG.out HQ.out HNO.out,hbel.trans (hb1.mono hsz)⟩
  ·have hlt':¬(k:Int)<(l.length:Int):=by omega
   go_wp2_with fail;go_ret;refine⟨_,rfl,zbo.none ?_,hbel⟩;have h0:=HNO.out;rw[List.take_of_length_le (by omega)]at h0;exact h0
theorem zdy(l:List zaa)(v:Value)(q:zaa->Bool)(N:Nat)(C:Array Value)(w:World)(hcall:∀(args:Array Value) (W:World),(callFunc N args).run Tryz.prog W=.ok (.enter N args) W)(hI:zae w v l)(hlen:l.length<=140737488351)
  (hp:∀W:World,Below w.heap.size w W->∀e∈l,Calls Tryz.prog N (#[.agg #[.int .i64 e.1,.int .i64 e.2]]++C) W fun r w'=>r=.returned (.bool (q e))/\Below W.heap.size W w') :
  Calls Tryz.prog 71 #[v,.func (.func N) #[] C] w fun r w'=>r=.returned (.bool (l.any q))/\Below w.heap.size w w':=by
 have HC:Hid (Calls Tryz.prog 129 #[v,.func (.func N) #[] C] w fun r w'=>∃n:Int,r=.returned (.int .i64 n)/\zbo l q n/\Below w.heap.size w w'):=zfT l v q N C w hcall hI hlen hp;clear hp hI hcall;go_enter Tryz.func71,Tryz.ntmps71;go_wp2_with (go_at_call 129;refine HC.out.mono ?_;rintro e w1 ⟨n,rfl,hn,hb1⟩;have hn1:=hn.sign;clear hn);all_goals go_ret
 all_goals exact⟨zbP (by simp_all),hb1⟩
end Go.Proofs.YthlhgiihngcobaaGreatDoor
