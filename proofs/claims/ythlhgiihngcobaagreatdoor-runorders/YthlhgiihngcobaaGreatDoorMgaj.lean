/-
  PROVED HERE: how a list of numbers lies in memory, as a slice value that came in or that the program made itself; history.Deals gives the deals that have an op, rising, of a list that is right; plain facts on histories, with no word of the program; plain facts, with no word of the program.
  Conditions: none but those that each theorem's own premises say.
-/
import Derived.Test.YthlhgiihngcobaaGreatDoorProg
import Derived.WalkKit
import Derived.WalkSpells
import Derived.Handy
import Derived.Test.YthlhgiihngcobaaGreatDoorMgai
import Derived.Test.YthlhgiihngcobaaGreatDoorMgah
set_option maxHeartbeats 32000000
set_option maxRecDepth 100000
namespace Go.Proofs.YthlhgiihngcobaaGreatDoor
open Go.RowKit
def zak(w:World)(v:Value)(l:List Int):Prop :=∃(ad:Option Addr) (b off cap:Nat),v=.slice ad l.length cap/\(0<l.length->ad=some ⟨b,off,none⟩)/\(ad=none->l.length=0/\cap=0)/\(b<w.heap.size\/l=[])/\∀i,i<l.length->w.cell? ⟨b,off+i,none⟩=some (.int .i64 (l.getD i 0))
theorem zak.below{w w1:World}{B:Nat}{v:Value}{l:List Int}(h:zak w v l)(hb:Below B w w1)(hB:w.heap.size<=B):zak w1 v l:=by
 obtain⟨ad,b,off,cap,hv,ha,hn,hbB,hc⟩:=h;have hs:=hb.size;refine⟨ad,b,off,cap,hv,ha,hn,?_,fun i hi=>?_⟩
 ·rcases hbB with h | h
  ·exact .inl (by omega)
  ·exact .inr h
 ·rcases hbB with h | h
  ·rw[hb.cell (p:=⟨b,off+i,none⟩) (by simp;omega)];exact hc i hi
  ·subst h;simp at hi
theorem zfc(w:World):zak w (.slice none 0 0) []:=⟨none,0,0,0,rfl,fun h=>absurd h (by simp),fun _=>⟨rfl,rfl⟩,.inr rfl,fun i hi=>by simp at hi⟩
theorem zaF{w:World}{base e n:Nat}{v:Value}{l:List Int}(h:w.ownsRow base e 1 v n (l.map (Value.int .i64)))(hl:l.length=n):zak w v l:=by
 have h':=h;obtain⟨_,⟨hv,hd⟩ | ⟨g,cap,cur,hv,hb,hg,hn,hm,hsz,htk⟩⟩:=h'
 ·have:l=[]:=List.length_eq_zero_iff.1 (by omega);subst this;rw[hv];exact zfc w
 ·refine⟨some ⟨g,0,none⟩,g,0,cap,by rw[hl];exact hv,fun _=>rfl,fun h=>(by simp at h),.inl (h.lt g (by rw[hv];rfl)).2,fun i hi=>?_⟩;have:=h.cells (g:=g) (by rw[hv];rfl) i (.int .i64 (l.getD i 0)) (by simp[List.getD,hi]);rw[Addr.add_lit]at this;exact this
theorem zat{w w1:World}{base e size n B:Nat}{v:Value}{xs:List Value}(h:w.ownsRow base e size v n xs)(hb:Below B w w1)(hB:w.heap.size<=B):w1.ownsRow base e size v n xs:=by
 have h':=h;obtain⟨hl,hd | ⟨g,cap,cur,hv,hbg,hg,hn,hm,hsz,htk⟩⟩:=h
 ·exact⟨hl,.inl hd⟩
 ·refine⟨hl,.inr ⟨g,cap,cur,hv,hbg,?_,hn,hm,hsz,htk⟩⟩;have hlt:g<w.heap.size:=(h'.lt g (by rw[hv];rfl)).2;rw[hb.block g (by omega)];exact hg
theorem zdT:(Tryz.prog.info? 3).map (fun i=>(i.zero,i.size,i.bytes))=some (some (.int .i64 0),1,8):=by kernel_rfl
end Go.Proofs.YthlhgiihngcobaaGreatDoor
namespace Go.Proofs.YthlhgiihngcobaaGreatDoor
open Go.RowKit
def zeH(l:List Op3)(t:Int):Bool:=l.any fun o=>o.1 == t
def dealsTo(l:List Op3):Nat->List Int
 | 0=>[]
 | n+1=>dealsTo l n++(if zeH l ((n:Int)+1)then[(n:Int)+1]else[])
def zac(l:List Op3):List Int:=dealsTo l 6
theorem za7(l:List Op3)(n:Nat):(dealsTo l n).length<=n:=by
 induction n with
 | zero=>simp[dealsTo]
 | succ n ih=>simp only[dealsTo];split <;> simp <;> omega
theorem zgh{l:List Op3}{k:Nat}{o:Op3}(hd:l.drop k=o::l.drop (k+1))(t:Int):zeH (l.drop k) t=(o.1 == t || zeH (l.drop (k+1)) t):=by rw[hd];rfl
theorem zj8(l:List Op3)(ad:Option Addr)(b off cap:Nat)(c:Nat)(tx:Int)(w:World)(hlen:l.length<=140737488351)(ha:0<l.length->ad=some ⟨b,off,none⟩)(hbB:b<w.heap.size\/l=[])(hops:zdw w b off l)(hc:w.cell? ⟨c,0,none⟩=some (.int .i64 tx))(hcl:c<w.heap.size):Calls Tryz.prog 183 #[.slice ad l.length cap,.func (.func 184) #[] #[.pointer (some ⟨c,0,none⟩)]] w fun e w'=>∃n:Int,e=.returned (.int .i64 n)/\decide (0<=n)=zeH l tx/\Below w.heap.size w w':=by
 go_enter Tryz.func183,Tryz.ntmps183;go_wp2
 go_loopw [8] (fun v8 wr=>∃k:Nat,k<=l.length/\v8=.int .i64 k/\zeH (l.drop k) tx=zeH l tx/\Below w.heap.size w wr) (fun v8 _=>l.length-(intOf v8).toNat)
 case atStart=>exact⟨0,Nat.zero_le _,rfl,rfl,Below.refl _ _⟩
 case round =>
  obtain⟨k,hk,rfl,hck,hbel⟩:=hrel;have HK:Hid (zeH (l.drop k) tx=zeH l tx):=hck;clear hck;by_cases hlt:k<l.length
  ·obtain rfl:=ha (by omega);obtain⟨c0,c1,c2⟩:=hops k hlt
   have hb1:b<w.heap.size:=by
    rcases hbB with h | h
    ·exact h
    ·subst h;simp at hlt
   rw[<-hbel.cell (p:=⟨b,off+k*3,none⟩) hb1]at c0;rw[<-hbel.cell (p:=⟨b,off+k*3+1,none⟩) hb1]at c1;rw[<-hbel.cell (p:=⟨b,off+k*3+2,none⟩) hb1]at c2;rw[<-hbel.cell (p:=⟨c,0,none⟩) hcl]at hc;obtain⟨⟨t,a,i⟩,ho⟩:∃o:Op3,l.getD k (0,0,0)=o:=⟨_,rfl⟩;rw[ho]at c0 c1 c2;have hsz:=hbel.size;have HD:Hid (l.drop k=(t,a,i)::l.drop (k+1)):=by show l.drop k=(t,a,i)::l.drop (k+1);rw[<-ho];simp[List.getD,List.getElem?_eq_getElem hlt]
   clear ho hops ha hbB;simp only at c0 c1 c2;cases hq:(t == tx)with
   | true =>go_wp2_with (go_at_call 184;refine(isOf1_any t a i tx c _ hc (by omega)).mono ?_;rintro e w' ⟨rfl,rfl⟩);go_ret;exact⟨k,rfl,by rw[<-HK.out,zgh HD.out];simp[hq],hbel.alloc (by omega) _⟩
   | false =>
     go_wp2_with (go_at_call 184;refine(isOf1_any t a i tx c _ hc (by omega)).mono ?_;rintro e w' ⟨rfl,rfl⟩);go_roundw
     case rel=>exact⟨k+1,by omega,by go_num,by rw[<-HK.out,zgh HD.out];simp[hq],hbel.alloc (by omega) _⟩
     case measure=>simp[intOf];omega
  ·go_wp2;go_ret;exact⟨-1,rfl,by rw[<-HK.out,List.drop_of_length_le (by omega)];rfl,hbel⟩
theorem contains_any(l:List Op3)(v:Value)(c:Nat)(tx:Int)(w:World)(hI:zal w v l)(hlen:l.length<=140737488351)(hc:w.cell? ⟨c,0,none⟩=some (.int .i64 tx))(hcl:c<w.heap.size):Calls Tryz.prog 120 #[v,.func (.func 184) #[] #[.pointer (some ⟨c,0,none⟩)]] w fun e w'=>e=.returned (.bool (zeH l tx))/\Below w.heap.size w w':=by obtain⟨ad,b,off,cap,rfl,ha,hn,hbB,hops⟩:=hI;go_enter Tryz.func120,Tryz.ntmps120;go_wp2_with (go_at_call 183;refine(zj8 l ad b off cap c tx _ hlen ha hbB hops hc hcl).mono ?_;rintro e w1 ⟨n,rfl,hn1,hb1⟩);go_ret;exact⟨rfl,hb1⟩
theorem deals_own(l:List Op3)(v:Value)(w:World)(h:zal w v l)(hc:(chk l).2=0):Calls Tryz.prog 52 #[v] w fun e w'=>∃v',e=.returned (.tuple #[v',.nilIface])/\w'.ownsRow w.heap.size 3 1 v' (zac l).length ((zac l).map (Value.int .i64))/\Below w.heap.size w w':=by
 have hl40:=zaN hc;go_enter Tryz.func52,Tryz.ntmps52;go_wp2_with (go_at_call 81;refine(check_ok l _ _ h hc).mono ?_;rintro e w1 ⟨rfl,hb1⟩);clear hc;have hs1:=hb1.size
 go_loopw [6,7] (fun v6 v7 wr=>∃n:Nat,n<=6/\v7=.int .i64 (n+1)/\wr.ownsRow w.heap.size 3 1 v6 (dealsTo l n).length ((dealsTo l n).map (Value.int .i64))/\Below w.heap.size w wr) (fun _ v7 _=>7-(intOf v7).toNat)
 case atStart=>exact⟨0,by omega,rfl,World.ownsRow_nil _ _ _ _,hb1⟩
 case round =>
  obtain⟨n,hn6,rfl,hown,hbel⟩:=hrel;have hsz:=hbel.size;have hdl:=za7 l n;by_cases hlt:n<6
  ·have hI:=(h.below hbel (Nat.le_refl _)).below ((Below.refl wr.heap.size wr).alloc (Nat.le_refl _) (.cells #[.int .i64 ((n:Int)+1)] 3)) (Nat.le_refl _);cases hq:zeH l ((n:Int)+1)with
   | false =>
     have HQ:Hid (dealsTo l (n+1)=dealsTo l n):=by show dealsTo l (n+1)=dealsTo l n;simp[dealsTo,hq]
     go_wp2_with (first | (go_at_call 120;refine(contains_any l v wr.heap.size ((n:Int)+1) _ hI (by omega) (by simp) (by simp)).mono ?_;rintro e w2 ⟨rfl,hb2⟩) | go_in);have hB2:=(hbel.alloc hsz (.cells #[.int .i64 ((n:Int)+1)] 3)).trans (hb2.mono (by simp;omega));go_roundw
     case rel=>exact⟨n+1,by omega,by go_num,by rw[HQ.out];exact zat (hown.alloc _) hb2 (Nat.le_refl _),hB2⟩
     case measure=>simp[intOf];omega
   | true =>
     have HQ:Hid (dealsTo l (n+1)=dealsTo l n++[(n:Int)+1]):=by show dealsTo l (n+1)=dealsTo l n++[(n:Int)+1];simp[dealsTo,hq]
     obtain⟨i0,hi,hz0,hs0,hy0⟩:=info_parts zdT;have HI:Hid (Tryz.prog.info? 3=some i0/\i0.zero=some (.int .i64 0)/\i0.size=1/\i0.bytes=8):=⟨hi,hz0,hs0,hy0⟩;clear hi hz0 hs0 hy0;go_wp2_with (first | (go_at_call 120;refine(contains_any l v wr.heap.size ((n:Int)+1) _ hI (by omega) (by simp) (by simp)).mono ?_;rintro e w2 ⟨rfl,hb2⟩;have hown2:=zat (hown.alloc _) hb2 (Nat.le_refl _);have hs2:=hb2.size;simp at hs2) | (at_builtin;refine wpList_append_own _ rfl (.tmp 24) (.tmp 26) 24 rfl w.heap.size 3 i0 (.int .i64 0) 1 8 Tryz.underlying24 HI.out.1 HI.out.2.1 HI.out.2.2.1 HI.out.2.2.2 rfl (by decide) u6 (dealsTo l n).length ((dealsTo l n).map (Value.int .i64)) rfl (hown2.alloc _) ⟨w2.heap.size,0,none⟩ 1 1 [.int .i64 ((n:Int)+1)] rfl rfl (cell_one_new _ _ _) (by simp[Value.oneCell']) (by unfold maxLen;omega) (by omega) (by simp;omega) ?_;intro v' w3 hown3 hgr3 hnil3) | go_in);have hB2:=(hbel.alloc hsz (.cells #[.int .i64 ((n:Int)+1)] 3)).trans (hb2.mono (by simp;omega));have hB3:=(hB2.alloc (by omega) _).grown hgr3 (by simp;omega) (fun m hm=>(hown.lt m hm).1);go_roundw
     case rel=>exact⟨n+1,by omega,by go_num,by rw[HQ.out];simpa using hown3,hB3⟩
     case measure=>simp[intOf];omega
  ·obtain rfl:n=6:=by omega
   go_wp2;go_ret2;exact⟨_,rfl,hown,hbel⟩
theorem deals_ok(l:List Op3)(v:Value)(w:World)(h:zal w v l)(hc:(chk l).2=0):Calls Tryz.prog 52 #[v] w fun e w'=>∃v',e=.returned (.tuple #[v',.nilIface])/\zak w' v' (zac l)/\Below w.heap.size w w' :=(deals_own l v w h hc).mono fun _ _ ⟨v',he,ho,hb⟩=>⟨v',he,zaF ho rfl,hb⟩
end Go.Proofs.YthlhgiihngcobaaGreatDoor
namespace Go.Proofs.YthlhgiihngcobaaGreatDoor
def zeF(l:List Op3):Prop:=l.Pairwise fun a b=>¬(a.1=b.1/\zax a.2.1=true)
theorem zdg{l:List Op3}{t:Int}:zao l t=false↔∀o∈l,¬(o.1=t/\zax o.2.1=true):=by simp[zao]
theorem zdZ(l:List Op3):∀pre,(chkFrom pre l).2=0↔((∀o∈l,isOpB o=true)/\(∀o∈l,zao pre o.1=false)/\zeF l):=by
 induction l with
 | nil=>intro pre;simp[chkFrom,zeF]
 | cons a r ih =>
   intro pre;cases h1:isOpB a with
   | false =>rw[zci pre r h1];simp[h1]
   | true =>
     cases h2:zao pre a.1 with
     | true =>rw[zcj r h1 h2];simp[h2]
     | false =>
       rw[zdt r h1 h2,ih];constructor
       ·rintro⟨k1,k2,k3⟩;refine⟨fun o ho=>?_,fun o ho=>?_,?_⟩
        ·rcases List.mem_cons.1 ho with rfl | ho
         ·exact h1
         ·exact k1 o ho
        ·rcases List.mem_cons.1 ho with rfl | ho
         ·exact h2
         ·have:=k2 o ho;rw[zbs]at this;exact(Bool.or_eq_false_iff.1 this).1
        ·refine List.pairwise_cons.2 ⟨fun b hb=>?_,k3⟩;have:=k2 b hb;rw[zbs]at this;have h3:=(Bool.or_eq_false_iff.1 this).2;rintro⟨e1,e2⟩;simp[e1,e2]at h3
       ·rintro⟨k1,k2,k3⟩;obtain⟨k4,k5⟩:=List.pairwise_cons.1 k3;refine⟨fun o ho=>k1 o (List.mem_cons_of_mem _ ho),fun o ho=>?_,k5⟩;rw[zbs,k2 o (List.mem_cons_of_mem _ ho)];have:=k4 o ho;by_cases e1:a.1=o.1
        ·cases e2:zax a.2.1 with
         | true=>exact absurd ⟨e1,e2⟩ this
         | false=>simp
        ·simp[e1]
theorem zbT(l:List Op3):(chk l).2=0↔(l.length<=40/\(∀o∈l,isOpB o=true)/\zeF l):=by
 constructor
 ·intro h;have hl:=zaN h;rw[zcV l hl,zdZ]at h;exact⟨hl,h.1,h.2.2⟩
 ·rintro⟨hl,h1,h2⟩;rw[zcV l hl,zdZ];exact⟨h1,fun o _=>by simp[zao],h2⟩
theorem zmX{l m:List Op3}(h:(chk l).2=0)(hs:m.Sublist l):(chk m).2=0:=by rw[zbT]at h ⊢;exact⟨Nat.le_trans hs.length_le h.1,fun o ho=>h.2.1 o (hs.subset ho),h.2.2.sublist hs⟩
theorem chk_done{l:List Op3}(h:(chk l).2=0):(chk (doneL l)).2=0:=zmX h (List.filter_sublist ..)
theorem commIn_done(l:List Op3)(t:Nat):za3 (doneL l) t=za3 l t:=by
 rw[Bool.eq_iff_iff];simp only[za3,List.any_eq_true,doneL,List.mem_filter,Bool.and_eq_true,beq_iff_eq];constructor
 ·rintro⟨o,⟨h1,_⟩,h2⟩;exact⟨o,h1,h2⟩
 ·rintro⟨o,h1,h2⟩;refine⟨o,⟨h1,o,h1,?_,h2.2⟩,h2⟩;rw[h2.1];simp
theorem zjh(l:List Op3):doneL (doneL l)=doneL l:=by
 have e:doneL (doneL l)=(doneL l).filter fun o=>za3 l o.1.toNat:=by unfold doneL;apply List.filter_congr;intro o _;exact commIn_done l o.1.toNat
 rw[e];unfold doneL;rw[List.filter_filter];simp
theorem zei(l:List Op3)(n:Nat):∀t∈dealsTo l n,1<=t/\t<=n/\zeH l t=true:=by
 induction n with
 | zero=>intro t ht;simp[dealsTo]at ht
 | succ n ih =>
   intro t ht;simp only[dealsTo,List.mem_append]at ht;rcases ht with ht | ht
   ·have:=ih t ht;exact⟨this.1,by omega,this.2.2⟩
   ·cases hb:zeH l ((n:Int)+1)with
    | true=>rw[hb,if_pos rfl]at ht;simp at ht;subst ht;exact⟨by omega,by omega,hb⟩
    | false=>rw[hb]at ht;simp at ht
theorem zgd(l:List Op3)(n:Nat):(dealsTo l n).Pairwise (· < ·):=by
 induction n with
 | zero=>simp[dealsTo]
 | succ n ih =>
   simp only[dealsTo];refine List.pairwise_append.2 ⟨ih,?_,fun a ha b hb=>?_⟩
   ·split <;> simp
   ·have h1:=(zei l n a ha).2.1;split at hb
    ·simp at hb;omega
    ·simp at hb
theorem znd{l:List Op3}{t:Int}(h:zeH l t=false):(ofL l t).length=0:=by simp[zeH]at h;simp only[ofL];rw[List.length_eq_zero_iff,List.filter_eq_nil_iff];intro o ho;have:=h o.1 o.2.1 o.2.2 ho;simpa using this
theorem znl{l:List Op3}{t:Int}(h:zeH l t=true):0<(ofL l t).length:=by simp only[zeH,List.any_eq_true]at h;obtain⟨o,ho,he⟩:=h;exact List.length_pos_of_mem (List.mem_filter.2 ⟨ho,he⟩)
end Go.Proofs.YthlhgiihngcobaaGreatDoor
namespace Go.Proofs.YthlhgiihngcobaaGreatDoor
theorem zcZ:∀(l m:List Int),l.Pairwise (· < ·)->m.Pairwise (· < ·)->(∀x,x∈l↔x∈m)->l=m:=by
 intro l
 induction l with
 | nil =>
   intro m _ _ h;cases m with
   | nil=>rfl
   | cons b r=>exact absurd ((h b).2 (List.mem_cons_self ..)) (by simp)
 | cons a l ih =>
   intro m hl hm h;cases m with
   | nil=>exact absurd ((h a).1 (List.mem_cons_self ..)) (by simp)
   | cons b r =>
     obtain⟨l1,l2⟩:=List.pairwise_cons.1 hl;obtain⟨m1,m2⟩:=List.pairwise_cons.1 hm
     have hab:a=b:=by
      rcases List.mem_cons.1 ((h a).1 (List.mem_cons_self ..))with e | e
      ·exact e
      ·rcases List.mem_cons.1 ((h b).2 (List.mem_cons_self ..))with e2 | e2
       ·exact e2.symm
       ·have:=m1 a e;have:=l1 b e2;omega
     subst hab;congr 1;refine ih r l2 m2 fun x=>⟨fun hx=>?_,fun hx=>?_⟩
     ·rcases List.mem_cons.1 ((h x).1 (List.mem_cons_of_mem _ hx))with e | e
      ·have:=l1 x hx;omega
      ·exact e
     ·rcases List.mem_cons.1 ((h x).2 (List.mem_cons_of_mem _ hx))with e | e
      ·have:=m1 x hx;omega
      ·exact e
theorem zdm{l:List Int}(h:l.Pairwise (· < ·)):l.Nodup:=by rw[List.nodup_iff_pairwise_ne];exact h.imp fun {a b} hab=>by omega
theorem zij(l:List Op3){t:Int}(h1:1<=t)(h:zeH l t=true):∀n:Nat,t<=n->t∈dealsTo l n:=by
 intro n
 induction n with
 | zero=>intro h2;omega
 | succ n ih =>
   intro h2;simp only[dealsTo];by_cases e:t=(n:Int)+1
   ·subst e;rw[if_pos h];simp
   ·exact List.mem_append_left _ (ih (by omega))
theorem zaz{l:List Op3}{t:Int}:t∈zac l↔(1<=t/\t<=6/\zeH l t=true):=by
 constructor
 ·intro h;have:=zei l 6 t h;exact⟨this.1,by have:=this.2.1;omega,this.2.2⟩
 ·rintro⟨h1,h2,h3⟩;exact zij l h1 h3 6 (by omega)
theorem zfy{l:List Op3}{t:Int}:zeH l t=true↔∃o∈l,o.1=t:=by simp[zeH]
def zll(o:List Int):List Int:=o.foldl zhY []
theorem zln(x:Int):∀(o acc:List Int),x∈o.foldl zhY acc↔(x∈acc\/x∈o):=by
 intro o
 induction o with
 | nil=>intro acc;simp
 | cons a r ih =>
   intro acc;rw[List.foldl_cons,ih,putL_mem,List.mem_cons];constructor
   ·rintro((h | h) | h)
    ·exact .inr (.inl h)
    ·exact .inl h
    ·exact .inr (.inr h)
   ·rintro(h | h | h)
    ·exact .inl (.inr h)
    ·exact .inl (.inl h)
    ·exact .inr h
theorem zkB:∀(o acc:List Int),acc.Pairwise (· < ·)->(o.foldl zhY acc).Pairwise (· < ·):=by
 intro o
 induction o with
 | nil=>intro acc h;exact h
 | cons a r ih=>intro acc h;exact ih _ (putL_rise h a)
theorem zfu{o:List Int}{x:Int}:x∈zll o↔x∈o:=by have:=zln x o [];simpa[zll]using this
theorem zfb(o:List Int):(zll o).Pairwise (· < ·):=zkB o [] List.Pairwise.nil
theorem za5(l:List Op3):(zac l).Pairwise (· < ·):=zgd l 6
def za6(o:List Int):List Int:=o.mergeSort fun x y=>decide (x<=y)
theorem zaD(o:List Int):(za6 o).Perm o:=List.mergeSort_perm o _
theorem zdI(o:List Int):(za6 o).Pairwise (·<=·):=by have:=List.pairwise_mergeSort (le:=fun x y:Int=>decide (x<=y)) (by intro a b c h1 h2;simp at *;omega) (by intro a b;simp;omega) o;exact this.imp fun {a b} hab=>by simpa using hab
theorem zeg:∀(d o:List Int),d.Nodup->(∀x∈d,x∈o)->o.length<=d.length->d.Perm o:=by
 intro d
 induction d with
 | nil =>intro o _ _ h;have e:o=[]:=List.length_eq_zero_iff.1 (by simpa using h);rw[e]
 | cons a d ih =>intro o hn hs hl;have ha:a∈o:=hs a (List.mem_cons_self ..);have h1:=List.perm_cons_erase ha;have h2:=List.length_erase_of_mem ha;have hpos:=List.length_pos_of_mem ha;obtain⟨hna,hnd⟩:=List.nodup_cons.1 hn;refine((ih (o.erase a) hnd (fun x hx=>?_) (by simp at hl;omega)).cons a).trans h1.symm;have hxa:x≠a:=fun e=>hna (e ▸hx);exact(List.mem_erase_of_ne hxa).2 (hs x (List.mem_cons_of_mem _ hx))
theorem zlZ{o d:List Int}(hd:d.Pairwise (· < ·)):za6 o=d↔(o.length=d.length/\zll o=d):=by
 constructor
 ·intro h;have hp:d.Perm o:=h ▸zaD o;refine⟨hp.length_eq.symm,zcZ _ _ (zfb o) hd fun x=>?_⟩;rw[zfu];exact hp.mem_iff.symm
 ·rintro⟨hl,h⟩;have hp:d.Perm o:=zeg d o (zdm hd) (fun x hx=>zfu.1 (h ▸hx)) (by omega);have hq:(za6 o).Perm d:=(zaD o).trans hp.symm;refine zcZ _ _ ?_ hd fun x=>hq.mem_iff;have hn:(za6 o).Nodup:=hq.nodup_iff.2 (zdm hd);rw[List.nodup_iff_pairwise_ne]at hn;exact((zdI o).and hn).imp fun {a b} hab=>by omega
theorem zcn{o d:List Int}(h:za6 o=d):o.Perm d:=h ▸(zaD o).symm
theorem zdU{l:List Op3}{o:List Int}(h:za6 o=zac l):o.length<=6:=by rw[(zcn h).length_eq];exact za7 l 6
theorem ziU{l:List Op3}{o:List Int}(h:za6 o=zac l){x:Int}(hx:x∈o):1<=x/\x<=6:=by have:=zaz.1 ((zcn h).mem_iff.1 hx);exact⟨this.1,this.2.1⟩
def alongL(d:List Op3)(o:List Int):List Op3:=o.flatMap fun t=>ofL d t
theorem ziL(d:List Op3)(o:List Int)(t:Int):alongL d (o++[t])=alongL d o++ofL d t:=by simp[alongL]
theorem zj0(d:List Op3)(o:List Int):(alongL d o).length<=o.length*d.length:=by
 induction o with
 | nil=>simp[alongL]
 | cons t o ih =>
   have h1:(ofL d t).length<=d.length:=List.length_filter_le ..;have h2:alongL d (t::o)=ofL d t++alongL d o:=by simp[alongL]
   rw[h2,List.length_append,List.length_cons,Nat.add_mul];omega
end Go.Proofs.YthlhgiihngcobaaGreatDoor
