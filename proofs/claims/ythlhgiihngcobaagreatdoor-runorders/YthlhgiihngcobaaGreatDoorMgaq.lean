/-
  PROVED HERE: a row of bools in a block of memory, and what becomes of it when one of them is set, when memory is made, and; lanelaw3.RunOrders returns true, whatever the numbers, over whatever run.Run answers, if it orders the.
  Conditions: none but those that each theorem's own premises say.
-/
import Derived.Test.YthlhgiihngcobaaGreatDoorMgap
import Derived.Test.YthlhgiihngcobaaGreatDoorMgah
import Derived.Test.YthlhgiihngcobaaGreatDoorMgaf
import Derived.Test.YthlhgiihngcobaaGreatDoorMgaj
import Derived.Deep.Cut
import Derived.Laws.Concat
import Derived.Lib.Strings
set_option maxHeartbeats 32000000
set_option maxRecDepth 100000
namespace Go.Proofs.YthlhgiihngcobaaGreatDoor
open Go.RowKit
def zag(w:World)(b n:Nat)(s:zaK):Prop:=∀k,k<n->w.cell? ⟨b,k,none⟩=some (.bool (s k))/\w.frozen? ⟨b,k,none⟩=false
theorem zag.congr{w:World}{b n:Nat}{s r:zaK}(h:zag w b n s)(he:∀k,k<n->s k=r k):zag w b n r:=fun k hk=>by rw[<-he k hk];exact h k hk
theorem zag.drew{w:World}{b n:Nat}{s:zaK}(h:zag w b n s):zag w.drew b n s:=h
theorem zag.lt{w:World}{b n:Nat}{s:zaK}(h:zag w b n s)(hn:0<n):b<w.heap.size:=by have:=World.block_lt_of_cell? w _ (h 0 hn).1;simpa using this
theorem zag.below{w w1:World}{b n B:Nat}{s:zaK}(h:zag w b n s)(hb:Below B w w1)(hB:b<B):zag w1 b n s:=fun k hk=>by rw[hb.cell (p:=⟨b,k,none⟩) hB,hb.frozen (p:=⟨b,k,none⟩) hB];exact h k hk
theorem zag.alloc{w:World}{b n:Nat}{s:zaK}(h:zag w b n s)(o:Obj):zag (w.alloc o) b n s:=fun k hk=>by
 have hlt:b<w.heap.size:=by have:=World.block_lt_of_cell? w _ (h k hk).1;simpa using this
 rw[World.cell?_alloc_lt _ _ _ hlt,World.frozen?_alloc_old _ _ _ (Nat.ne_of_lt hlt)];exact h k hk
theorem zag.set{w:World}{b n t:Nat}{s:zaK}(h:zag w b n s)(x:Bool)(ht:t<n):zag (w.setCell ⟨b,t,none⟩ (.bool x)) b n (zcL s t x):=fun k hk=>by
 rw[World.frozen?_setCell];refine⟨?_,(h k hk).2⟩;unfold zcL;by_cases e:k=t
 ·subst e;rw[if_pos rfl];exact World.cell?_setCell_same _ _ _ (h k hk).1
 ·rw[if_neg e,World.cell?_setCell_other _ _ _ _ (by simp <;> omega)];exact(h k hk).1
theorem zag.far{w:World}{b n:Nat}{s:zaK}(h:zag w b n s){p:Addr}(v:Value)(hp:p.block≠b):zag (w.setCell p v) b n s:=fun k hk=>by rw[World.frozen?_setCell,World.cell?_setCell_other _ _ _ _ (by intro e;exact hp (congrArg Addr.block e))];exact h k hk
theorem zag.grown{w w1:World}{b n:Nat}{s:zaK}{row:Option Nat}(h:zag w b n s)(hg:w.grownBy w1 row)(hlt:b<w.heap.size)(hne:row≠some b):zag w1 b n s:=fun k hk=>by have hb:=hg.block b hlt (Ne.symm hne);rw[World.cell?_of_block (w:=w) (a:=⟨b,k,none⟩) hb,World.frozen?_of_block (w:=w) (a:=⟨b,k,none⟩) hb];exact h k hk
theorem zbC(w:World)(s:zaK)(T:TypeId):zag (w.alloc (.cells #[.bool (s 0),.bool (s 1),.bool (s 2),.bool (s 3),.bool (s 4),.bool (s 5),.bool (s 6)] T)) w.heap.size 7 s:=fun k hk=>by rw[World.cell?_alloc_new,World.frozen?_alloc_new];refine⟨?_,rfl⟩;rcases(show k=0\/k=1\/k=2\/k=3\/k=4\/k=5\/k=6 by omega)with h | h | h | h | h | h | h <;> subst h <;> rfl
end Go.Proofs.YthlhgiihngcobaaGreatDoor
namespace Go.Proofs.YthlhgiihngcobaaGreatDoor
open Go.RowKit Go.PlainAid
def dgB(d:Int):ByteArray:=⟨#[UInt8.ofNat (48+d.toNat)]⟩
def bE:ByteArray:=⟨#[]⟩
def bBl:ByteArray:=⟨#[32]⟩
def zbp(p:ByteArray × ByteArray)(d:Int):ByteArray × ByteArray :=(((((((if p.1=bE then p.1 else p.1++bBl)++⟨#[114]⟩)++dgB d)++⟨#[40,97,41,32,119]⟩)++dgB d)++⟨#[40,97,41,32,99]⟩)++dgB d,(if p.1=bE then p.2 else p.2++bBl)++dgB d)
def zcc(o:List Int):ByteArray × ByteArray:=o.foldl zbp (bE,bE)
theorem zem(o:List Int)(d:Int):zcc (o++[d])=zbp (zcc o) d:=by unfold zcc;rw[List.foldl_append];rfl
def zbr(l:List Int):Nat->List Int
 | 0=>[]
 | k+1=>if(l.getD k 0<1\/6<l.getD k 0)\/l.getD k 0∈zbr l k then zbr l k else zbr l k++[l.getD k 0]
def zdb(o:List Int):Prop:=o.Nodup/\∀d∈o,1<=d/\d<=6
theorem zm0(l:List Int):∀k,zdb (zbr l k):=by
 intro k
 induction k with
 | zero=>exact⟨List.nodup_nil,fun d h=>(by cases h)⟩
 | succ k ih =>
   unfold zbr;split
   ·exact ih
   ·rename_i h;refine⟨?_,fun d hd=>?_⟩
    ·rw[List.nodup_append];refine⟨ih.1,by simp,fun a ha b hb e=>?_⟩;rw[List.mem_singleton]at hb;exact h (.inr (by rw[<-hb,<-e];exact ha))
    ·rcases List.mem_append.1 hd with h1 | h1
     ·exact ih.2 d h1
     ·rw[List.mem_singleton.1 h1];omega
def zbu(t:ByteArray):ByteArray:=((⟨#[104,105,115,116,111,114,121,32]⟩:ByteArray)++t)++⟨#[10,111,114,100,101,114,10,118,105,101,119,10,102,97,99,101,115,10]⟩
def zfI(t:ByteArray):ByteArray:=(((((⟨#[111,107,10]⟩:ByteArray)++t)++⟨#[10]⟩)++t)++⟨#[10,114,101,99,111,118,101,114,97,98,108,101,32,99,97,117,116,105,111,117,115,32,115,116,114,105,99,116,32,114,105,103,111,114,111,117,115,10]⟩)
def zet(p:ByteArray × ByteArray):ByteArray:=if p.1=bE then⟨#[45]⟩else p.2
theorem zav(a b c:ByteArray)(h:a++b=c)(hs:a.size+b.size<=9223372036854775807):∀W:World,(Op.stringOp .add a b).run Tryz.prog W=.ok (.string c) W:=fun W=>by rw[<-h];exact run_string_add_sum W a b hs
theorem zfh{t:ByteArray}(h:t=bE):t.toList=[]:=by rw[h,Lib.toList_data];rfl
theorem ze3{t:ByteArray}(h:t≠bE):t.toList.isEmpty=false:=by
 rw[Lib.toList_data];cases hq:t.data.toList with
 | nil =>refine absurd ?_ h;obtain⟨⟨m⟩⟩:=t;simp at hq;rw[hq];rfl
 | cons a r=>rfl
theorem zlz(l:List Int):∀k,(zbr l k).length<=k:=by
 intro k
 induction k with
 | zero=>exact Nat.le_refl _
 | succ k ih =>
   unfold zbr;split
   ·omega
   ·rw[List.length_append,List.length_singleton];omega
theorem zfw(d:Int):(dgB d).size=1:=rfl
theorem zfk{P:List Int->Prop}(h0:P [])(h1:∀r d,P r->P (r++[d]))(l:List Int):P l:=by
 rw[<-List.reverse_reverse l]
 induction l.reverse with
 | nil=>exact h0
 | cons d r ih=>rw[List.reverse_cons];exact h1 _ d ih
theorem zf2(o:List Int):(zcc o).1.size<=16*o.length/\(zcc o).2.size<=16*o.length:=by
 refine zfk (P:=fun o=>(zcc o).1.size<=16*o.length/\(zcc o).2.size<=16*o.length) ?_ (fun r d ih=>?_) o
 ·exact⟨Nat.zero_le _,Nat.zero_le _⟩
 ·rw[zem,List.length_append,List.length_singleton];have s1:(⟨#[114]⟩:ByteArray).size=1:=rfl;have s2:(⟨#[40,97,41,32,119]⟩:ByteArray).size=5:=rfl;have s3:(⟨#[40,97,41,32,99]⟩:ByteArray).size=5:=rfl;have s4:bBl.size=1:=rfl;unfold zbp;split
  ·simp only[ByteArray.size_append,zfw,s1,s2,s3];omega
  ·simp only[ByteArray.size_append,zfw,s1,s2,s3,s4];omega
structure znA(R:ByteArray->ByteArray):Prop where
 ord:∀o,zdb o->R (zbu (zcc o).1)=zfI (zet (zcc o))
 size:∀o,zdb o->(zbu (zcc o).1).size<=9223372036854775807
theorem zil(d:Int)(w:World)(h1:1<=d)(h6:d<=6):Calls Tryz.prog 6 #[.int .i64 d] w fun e w'=>e=.returned (.string (dgB d))/\w'=w:=by
 rcases(show d=1\/d=2\/d=3\/d=4\/d=5\/d=6 by omega)with rfl | rfl | rfl | rfl | rfl | rfl
 all_goals
  go_enter Tryz.func6,Tryz.ntmps6;go_wp2_with fail;go_ret;exact⟨by first | rfl | (congr 1;decide +kernel),rfl⟩
theorem zl3{R:ByteArray->ByteArray}(hR:∀(o:List Int) (W:World),zdb o->zdK W->Calls Tryz.prog 5 #[.string (zbu (zcc o).1)] W fun e w'=>e=.returned (.string (R (zbu (zcc o).1)))/\Below W.heap.size W w')(hO:znA R)(l:List Int)(v:Value)(w:World)(hI:zak w v l)(hG:zdK w):Calls Tryz.prog 4 #[v] w fun e w'=>e=.returned (.bool true)/\Below w.heap.size w w':=by
 obtain⟨ad,b,off,cap,rfl,ha,-,hbB,hc⟩:=hI;obtain⟨N,hN⟩:∃n,l.length=n:=⟨_,rfl⟩
 have HE:Hid (∀W,Below w.heap.size w W->∀k,k<N->ad=some ⟨b,off,none⟩/\b<w.heap.size/\W.cell? ⟨b,off+k,none⟩=some (.int .i64 (l.getD k 0))):=fun W hW k hk=>by
  have hk':k<l.length:=by omega
  have hb:b<w.heap.size:=by
   rcases hbB with h | h
   ·exact h
   ·rw[h]at hk';cases hk'
  exact⟨ha (by omega),hb,(hW.cell (p:=⟨b,off+k,none⟩) hb).trans (hc k hk')⟩
 have HRO:Hid (∀o W,zdb o->Below w.heap.size w W->Calls Tryz.prog 5 #[.string (zbu (zcc o).1)] W fun e w'=>e=.returned (.string (zfI (zet (zcc o))))/\Below W.heap.size W w'):=fun o W ho hb=>by have:=hR o W ho (hG.below hb);rw[hO.ord o ho]at this;exact this
 rw[hN];clear ha hbB hc hR hO hG;go_enter Tryz.func4,Tryz.ntmps4;go_wp2_with fail
 go_loopw [3,4,6,7] (fun v3 v4 v6 _ wr=>∃k:Nat,(k<=N/\k<=6)/\v6=.int .i64 k/\v3=.string (zcc (zbr l k)).1/\v4=.string (zcc (zbr l k)).2/\zag wr w.heap.size 7 (fun j=>decide ((j:Int)∈zbr l k))/\Below w.heap.size w wr) (fun _ _ v6 _ _=>N-(intOf v6).toNat)
 case atStart=>exact⟨0,⟨Nat.zero_le _,Nat.zero_le _⟩,rfl,rfl,rfl,zbC w (fun j=>decide ((j:Int)∈zbr l 0)) _,(Below.refl _ w).alloc (Nat.le_refl _) _⟩
 case round =>
  obtain⟨k,⟨hk,hk6⟩,rfl,rfl,rfl,hbs,hbel⟩:=hrel;have HBS:=zdM hbs;have HB:=zdM hbel;clear hbs hbel;have HPK:=zdM (zm0 l k);obtain⟨o,ho⟩:∃o,zbr l k=o:=⟨_,rfl⟩;have HPO:=zdM ho;rw[ho]at HBS HPK ⊢;clear ho;obtain⟨tx,wx,hT⟩:∃tx wx,zcc o=(tx,wx):=⟨_,_,rfl⟩;have HT:=zdM hT;have hsz:=zf2 o;have hol:o.length<=6:=by have:=zlz l k;rw[HPO.out]at this;omega
  rw[hT]at hsz ⊢;obtain⟨htx,hwx⟩:=hsz;have htx6:tx.size<=96:=by simp only at htx;omega
  have hwx6:wx.size<=96:=by simp only at hwx;omega
  clear htx hwx hol;clear hT;dsimp only;by_cases hgo:k<N/\k<6
  ·obtain⟨hlt,h6⟩:=hgo;have hlt':(k:Int)<(N:Int):=by omega
   have h6':(k:Int)<6:=by omega
   obtain⟨rfl,hbl,e0⟩:=HE.out wr HB.out k hlt;obtain⟨d,hd⟩:∃d,l.getD k 0=d:=⟨_,rfl⟩;rw[hd]at e0;have HSK:Hid ((d<1\/6<d)\/d∈o->zbr l (k+1)=o):=fun h=>by show(if(l.getD k 0<1\/6<l.getD k 0)\/l.getD k 0∈zbr l k then zbr l k else zbr l k++[l.getD k 0])=o;rw[hd,HPO.out,if_pos h]
   have HAD:Hid (¬((d<1\/6<d)\/d∈o)->zbr l (k+1)=o++[d]):=fun h=>by show(if(l.getD k 0<1\/6<l.getD k 0)\/l.getD k 0∈zbr l k then zbr l k else zbr l k++[l.getD k 0])=o++[d];rw[hd,HPO.out,if_neg h]
   clear hd;by_cases d1:d<1
   ·have HQ:=zdM (HSK.out (.inl (.inl d1)));go_wp2_with fail;go_roundw
    case rel=>exact⟨k+1,by omega,by go_num,by rw[HQ.out,HT.out],by rw[HQ.out,HT.out],by rw[HQ.out];exact HBS.out,HB.out⟩
    case measure=>simp[intOf];omega
   ·by_cases d6:6<d
    ·have HQ:=zdM (HSK.out (.inl (.inr d6)));go_wp2_with fail;go_roundw
     case rel=>exact⟨k+1,by omega,by go_num,by rw[HQ.out,HT.out],by rw[HQ.out,HT.out],by rw[HQ.out];exact HBS.out,HB.out⟩
     case measure=>simp[intOf];omega
    ·obtain⟨dn,rfl⟩:∃n:Nat,d=n:=⟨d.toNat,by omega⟩;have hdn:dn<7:=by omega
     have hdn':(dn:Int)<7:=by omega
     have hd0:¬(dn:Int)<0:=by omega
     obtain⟨cb,fb⟩:=HBS.out dn hdn;dsimp only at cb;by_cases hin:(dn:Int)∈o
     ·have HQ:=zdM (HSK.out (.inr hin));rw[decide_eq_true hin]at cb;clear hin;go_wp2_with fail;go_roundw
      case rel=>exact⟨k+1,by omega,by go_num,by rw[HQ.out,HT.out],by rw[HQ.out,HT.out],by rw[HQ.out];exact HBS.out,HB.out⟩
      case measure=>simp[intOf];omega
     ·have HQ:=zdM (HAD.out (by rintro((h | h) | h) <;> first | exact hin h | omega));rw[decide_eq_false hin]at cb;have HDG:Hid (∀W,Calls Tryz.prog 6 #[.int .i64 (dn:Int)] W fun e w'=>e=.returned (.string (dgB (dn:Int)))/\w'=W):=fun W=>zil _ W (by omega) (by omega);have HST:Hid (zcc (zbr l (k+1))=zbp (tx,wx) (dn:Int)):=by show _=_;rw[HQ.out,zem,HT.out]
      have HNB:Hid (∀j:Nat,j<7->zcL (fun j:Nat=>decide ((j:Int)∈o)) dn true j=decide ((j:Int)∈zbr l (k+1))):=fun j hj=>by
       rw[HQ.out];unfold zcL;by_cases e:j=dn
       ·subst e;simp
       ·rw[if_neg e];simp;omega
      clear hin;have e1:(wr.setCell ⟨w.heap.size,dn,none⟩ (.bool true)).cell? ⟨b,off+k,none⟩=some (.int .i64 (dn:Int)):=by rw[World.cell?_setCell_other _ _ _ _ (by intro e;have:=congrArg Addr.block e;simp at this;omega)];exact e0
      obtain⟨D,hD⟩:∃D,dgB (dn:Int)=D:=⟨_,rfl⟩;rw[hD]at HDG;have hDs:D.size=1:=by rw[<-hD];exact zfw _
      by_cases hte:tx=bE
      ·have HTE:=zdM hte;have hq:=zfh hte;clear hte;obtain⟨T1,hT1⟩:∃t,tx++(⟨#[114]⟩:ByteArray)=t:=⟨_,rfl⟩;obtain⟨T2,hT2⟩:∃t,T1++D=t:=⟨_,rfl⟩;obtain⟨T3,hT3⟩:∃t,T2++(⟨#[40,97,41,32,119]⟩:ByteArray)=t:=⟨_,rfl⟩;obtain⟨T4,hT4⟩:∃t,T3++D=t:=⟨_,rfl⟩;obtain⟨T5,hT5⟩:∃t,T4++(⟨#[40,97,41,32,99]⟩:ByteArray)=t:=⟨_,rfl⟩;obtain⟨T6,hT6⟩:∃t,T5++D=t:=⟨_,rfl⟩;obtain⟨W1,hW1⟩:∃t,wx++D=t:=⟨_,rfl⟩;have s1:(⟨#[114]⟩:ByteArray).size=1:=rfl;have s2:(⟨#[40,97,41,32,119]⟩:ByteArray).size=5:=rfl;have s3:(⟨#[40,97,41,32,99]⟩:ByteArray).size=5:=rfl;have z1:T1.size<=98:=by rw[<-hT1,ByteArray.size_append,s1];omega
       have z2:T2.size<=99:=by rw[<-hT2,ByteArray.size_append,hDs];omega
       have z3:T3.size<=104:=by rw[<-hT3,ByteArray.size_append,s2];omega
       have z4:T4.size<=105:=by rw[<-hT4,ByteArray.size_append,hDs];omega
       have z5:T5.size<=110:=by rw[<-hT5,ByteArray.size_append,s3];omega
       have c1:=zav _ _ _ hT1 (by rw[s1];omega);have c2:=zav _ _ _ hT2 (by rw[hDs];omega);have c3:=zav _ _ _ hT3 (by rw[s2];omega);have c4:=zav _ _ _ hT4 (by rw[hDs];omega);have c5:=zav _ _ _ hT5 (by rw[s3];omega);have c6:=zav _ _ _ hT6 (by rw[hDs];omega);have c7:=zav _ _ _ hW1 (by rw[hDs];omega);have HEQ:Hid (zbp (tx,wx) (dn:Int)=(T6,W1)):=by show _=_;unfold zbp bBl;rw[if_pos HTE.out,if_pos HTE.out,hD];dsimp only;rw[hT1,hT2,hT3,hT4,hT5,hT6,hW1]
       clear hT1 hT2 hT3 hT4 hT5 hT6 hW1 s1 s2 s3 z1 z2 z3 z4 z5 hD;go_wp2_with fail;refine(HDG.out _).mono ?_;rintro e w2 ⟨rfl,hw2⟩;rw[hw2];clear hw2;go_wp2_with fail;go_roundw
       case rel=>exact⟨k+1,by omega,by go_num,by rw[HST.out,HEQ.out],by rw[HST.out,HEQ.out],(HBS.out.set true hdn).congr HNB.out,HB.out.setCell (p:=⟨w.heap.size,dn,none⟩) (Nat.le_refl _) _⟩
       case measure=>simp[intOf];omega
      ·have HTE:=zdM hte;have hq:=ze3 hte;clear hte;have hS0:(⟨#[32]⟩:ByteArray).size=1:=rfl;obtain⟨T0,hT0⟩:∃t,tx++(⟨#[32]⟩:ByteArray)=t:=⟨_,rfl⟩;obtain⟨W0,hW0⟩:∃t,wx++(⟨#[32]⟩:ByteArray)=t:=⟨_,rfl⟩;have zT0:T0.size<=97:=by rw[<-hT0,ByteArray.size_append,hS0];omega
       have zW0:W0.size<=97:=by rw[<-hW0,ByteArray.size_append,hS0];omega
       have c0:=zav _ _ _ hT0 (by rw[hS0];omega);have c9:=zav _ _ _ hW0 (by rw[hS0];omega);obtain⟨T1,hT1⟩:∃t,T0++(⟨#[114]⟩:ByteArray)=t:=⟨_,rfl⟩;obtain⟨T2,hT2⟩:∃t,T1++D=t:=⟨_,rfl⟩;obtain⟨T3,hT3⟩:∃t,T2++(⟨#[40,97,41,32,119]⟩:ByteArray)=t:=⟨_,rfl⟩;obtain⟨T4,hT4⟩:∃t,T3++D=t:=⟨_,rfl⟩;obtain⟨T5,hT5⟩:∃t,T4++(⟨#[40,97,41,32,99]⟩:ByteArray)=t:=⟨_,rfl⟩;obtain⟨T6,hT6⟩:∃t,T5++D=t:=⟨_,rfl⟩;obtain⟨W1,hW1⟩:∃t,W0++D=t:=⟨_,rfl⟩;have s1:(⟨#[114]⟩:ByteArray).size=1:=rfl;have s2:(⟨#[40,97,41,32,119]⟩:ByteArray).size=5:=rfl;have s3:(⟨#[40,97,41,32,99]⟩:ByteArray).size=5:=rfl;have z1:T1.size<=98:=by rw[<-hT1,ByteArray.size_append,s1];omega
       have z2:T2.size<=99:=by rw[<-hT2,ByteArray.size_append,hDs];omega
       have z3:T3.size<=104:=by rw[<-hT3,ByteArray.size_append,s2];omega
       have z4:T4.size<=105:=by rw[<-hT4,ByteArray.size_append,hDs];omega
       have z5:T5.size<=110:=by rw[<-hT5,ByteArray.size_append,s3];omega
       have c1:=zav _ _ _ hT1 (by rw[s1];omega);have c2:=zav _ _ _ hT2 (by rw[hDs];omega);have c3:=zav _ _ _ hT3 (by rw[s2];omega);have c4:=zav _ _ _ hT4 (by rw[hDs];omega);have c5:=zav _ _ _ hT5 (by rw[s3];omega);have c6:=zav _ _ _ hT6 (by rw[hDs];omega);have c7:=zav _ _ _ hW1 (by rw[hDs];omega);have HEQ:Hid (zbp (tx,wx) (dn:Int)=(T6,W1)):=by show _=_;unfold zbp bBl;rw[if_neg HTE.out,if_neg HTE.out,hD];dsimp only;rw[hT0,hW0,hT1,hT2,hT3,hT4,hT5,hT6,hW1]
       clear hT0 hW0 hS0 hT1 hT2 hT3 hT4 hT5 hT6 hW1 s1 s2 s3 z1 z2 z3 z4 z5 hD;go_wp2_with fail;refine(HDG.out _).mono ?_;rintro e w2 ⟨rfl,hw2⟩;rw[hw2];clear hw2;go_wp2_with fail;go_roundw
       case rel=>exact⟨k+1,by omega,by go_num,by rw[HST.out,HEQ.out],by rw[HST.out,HEQ.out],(HBS.out.set true hdn).congr HNB.out,HB.out.setCell (p:=⟨w.heap.size,dn,none⟩) (Nat.le_refl _) _⟩
       case measure=>simp[intOf];omega
  ·have HC:=zdM (HRO.out o wr HPK.out HB.out);rw[HT.out]at HC;unfold zbu zfI zet at HC;dsimp only at HC;obtain⟨wv,hwv⟩:∃t,(if tx=bE then(⟨#[45]⟩:ByteArray)else wx)=t:=⟨_,rfl⟩;rw[hwv]at HC
   have zwv:wv.size<=96:=by
    rw[<-hwv];split
    ·exact(by decide:(⟨#[45]⟩:ByteArray).size<=96)
    ·exact hwx6
   obtain⟨A1,hA1⟩:∃t,(⟨#[104,105,115,116,111,114,121,32]⟩:ByteArray)++tx=t:=⟨_,rfl⟩;obtain⟨A2,hA2⟩:∃t,A1++(⟨#[10,111,114,100,101,114,10,118,105,101,119,10,102,97,99,101,115,10]⟩:ByteArray)=t:=⟨_,rfl⟩;obtain⟨B1,hB1⟩:∃t,(⟨#[111,107,10]⟩:ByteArray)++wv=t:=⟨_,rfl⟩;obtain⟨B2,hB2⟩:∃t,B1++(⟨#[10]⟩:ByteArray)=t:=⟨_,rfl⟩;obtain⟨B3,hB3⟩:∃t,B2++wv=t:=⟨_,rfl⟩;obtain⟨B4,hB4⟩:∃t,B3++(⟨#[10,114,101,99,111,118,101,114,97,98,108,101,32,99,97,117,116,105,111,117,115,32,115,116,114,105,99,116,32,114,105,103,111,114,111,117,115,10]⟩:ByteArray)=t:=⟨_,rfl⟩;rw[hA1,hA2,hB1,hB2,hB3,hB4]at HC;have s1:(⟨#[104,105,115,116,111,114,121,32]⟩:ByteArray).size=8:=rfl;have s2:(⟨#[10,111,114,100,101,114,10,118,105,101,119,10,102,97,99,101,115,10]⟩:ByteArray).size=18:=rfl;have s3:(⟨#[111,107,10]⟩:ByteArray).size=3:=rfl;have s4:(⟨#[10]⟩:ByteArray).size=1:=rfl;have s5:(⟨#[10,114,101,99,111,118,101,114,97,98,108,101,32,99,97,117,116,105,111,117,115,32,115,116,114,105,99,116,32,114,105,103,111,114,111,117,115,10]⟩:ByteArray).size=38:=rfl;have z1:A1.size<=104:=by rw[<-hA1,ByteArray.size_append,s1];omega
   have z2:B1.size<=99:=by rw[<-hB1,ByteArray.size_append,s3];omega
   have z3:B2.size<=100:=by rw[<-hB2,ByteArray.size_append,s4];omega
   have z4:B3.size<=196:=by rw[<-hB3,ByteArray.size_append];omega
   have c1:=zav _ _ _ hA1 (by rw[s1];omega);have c2:=zav _ _ _ hA2 (by rw[s2];omega);have c3:=zav _ _ _ hB1 (by rw[s3];omega);have c4:=zav _ _ _ hB2 (by rw[s4];omega);have c5:=zav _ _ _ hB3 (by omega);have c6:=zav _ _ _ hB4 (by rw[s5];omega);clear hA1 hA2 hB1 hB2 hB3 hB4 s1 s2 s3 s4 s5 z1 z2 z3 z4 zwv;by_cases hte:tx=bE
   ·rw[if_pos hte]at hwv;subst hwv;have hq:=zfh hte;clear hte;by_cases hlt:k<N
    ·have hlt':(k:Int)<(N:Int):=by omega
     have h6':¬(k:Int)<6:=by omega
     go_wp2_with fail;refine HC.out.mono ?_;rintro e w2 ⟨rfl,hb2⟩;have HB2:Hid (Below w.heap.size w w2):=HB.out.trans (hb2.mono HB.out.size);clear hb2;go_wp2_with fail;go_ret;exact⟨rfl,HB2.out⟩
    ·have hlt':¬(k:Int)<(N:Int):=by omega
     go_wp2_with fail;refine HC.out.mono ?_;rintro e w2 ⟨rfl,hb2⟩;have HB2:Hid (Below w.heap.size w w2):=HB.out.trans (hb2.mono HB.out.size);clear hb2;go_wp2_with fail;go_ret;exact⟨rfl,HB2.out⟩
   ·rw[if_neg hte]at hwv;subst hwv;have hq:=ze3 hte;clear hte;by_cases hlt:k<N
    ·have hlt':(k:Int)<(N:Int):=by omega
     have h6':¬(k:Int)<6:=by omega
     go_wp2_with fail;refine HC.out.mono ?_;rintro e w2 ⟨rfl,hb2⟩;have HB2:Hid (Below w.heap.size w w2):=HB.out.trans (hb2.mono HB.out.size);clear hb2;go_wp2_with fail;go_ret;exact⟨rfl,HB2.out⟩
    ·have hlt':¬(k:Int)<(N:Int):=by omega
     go_wp2_with fail;refine HC.out.mono ?_;rintro e w2 ⟨rfl,hb2⟩;have HB2:Hid (Below w.heap.size w w2):=HB.out.trans (hb2.mono HB.out.size);clear hb2;go_wp2_with fail;go_ret;exact⟨rfl,HB2.out⟩
end Go.Proofs.YthlhgiihngcobaaGreatDoor
