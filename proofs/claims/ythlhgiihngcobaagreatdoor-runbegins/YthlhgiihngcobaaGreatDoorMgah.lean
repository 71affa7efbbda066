/-
  PROVED HERE: how a list of numbers lies in memory, as a slice value that came in or that the program made itself; history.Deals gives the deals that have an op, rising, of a list that is right; plain facts on histories, with no word of the program; plain facts, with no word of the program; plain facts, with no word of the program; plain facts, with no word of the program; plain facts on lists, with no word of the program; plain facts, with no word of the program.
  Conditions: none but those that each theorem's own premises say.
-/
import Derived.Test.YthlhgiihngcobaaGreatDoorProg
import Derived.WalkKit
import Derived.WalkSpells
import Derived.Handy
import Derived.Test.YthlhgiihngcobaaGreatDoorMgag
import Derived.Test.YthlhgiihngcobaaGreatDoorMgaf
set_option maxHeartbeats 32000000
set_option maxRecDepth 100000
namespace Go.Proofs.YthlhgiihngcobaaGreatDoor
open Go.RowKit
def zaf(w:World)(v:Value)(l:List Int):Prop :=∃(ad:Option Addr) (b off cap:Nat),v=.slice ad l.length cap/\(0<l.length->ad=some ⟨b,off,none⟩)/\(ad=none->l.length=0/\cap=0)/\(b<w.heap.size\/l=[])/\∀i,i<l.length->w.cell? ⟨b,off+i,none⟩=some (.int .i64 (l.getD i 0))
theorem zaf.below{w w1:World}{B:Nat}{v:Value}{l:List Int}(h:zaf w v l)(hb:Below B w w1)(hB:w.heap.size<=B):zaf w1 v l:=by
 obtain⟨ad,b,off,cap,hv,ha,hn,hbB,hc⟩:=h;have hs:=hb.size;refine⟨ad,b,off,cap,hv,ha,hn,?_,fun i hi=>?_⟩
 ·rcases hbB with h | h
  ·exact .inl (by omega)
  ·exact .inr h
 ·rcases hbB with h | h
  ·rw[hb.cell (p:=⟨b,off+i,none⟩) (by simp;omega)];exact hc i hi
  ·subst h;simp at hi
theorem za5(w:World):zaf w (.slice none 0 0) []:=⟨none,0,0,0,rfl,fun h=>absurd h (by simp),fun _=>⟨rfl,rfl⟩,.inr rfl,fun i hi=>by simp at hi⟩
theorem zap{w:World}{base e n:Nat}{v:Value}{l:List Int}(h:w.ownsRow base e 1 v n (l.map (Value.int .i64)))(hl:l.length=n):zaf w v l:=by
 have h':=h;obtain⟨_,⟨hv,hd⟩ | ⟨g,cap,cur,hv,hb,hg,hn,hm,hsz,htk⟩⟩:=h'
 ·have:l=[]:=List.length_eq_zero_iff.1 (by omega);subst this;rw[hv];exact za5 w
 ·refine⟨some ⟨g,0,none⟩,g,0,cap,by rw[hl];exact hv,fun _=>rfl,fun h=>(by simp at h),.inl (h.lt g (by rw[hv];rfl)).2,fun i hi=>?_⟩;have:=h.cells (g:=g) (by rw[hv];rfl) i (.int .i64 (l.getD i 0)) (by simp[List.getD,hi]);rw[Addr.add_lit]at this;exact this
theorem zaG{w w1:World}{base e size n B:Nat}{v:Value}{xs:List Value}(h:w.ownsRow base e size v n xs)(hb:Below B w w1)(hB:w.heap.size<=B):w1.ownsRow base e size v n xs:=by
 have h':=h;obtain⟨hl,hd | ⟨g,cap,cur,hv,hbg,hg,hn,hm,hsz,htk⟩⟩:=h
 ·exact⟨hl,.inl hd⟩
 ·refine⟨hl,.inr ⟨g,cap,cur,hv,hbg,?_,hn,hm,hsz,htk⟩⟩;have hlt:g<w.heap.size:=(h'.lt g (by rw[hv];rfl)).2;rw[hb.block g (by omega)];exact hg
theorem zbK:(Tryz.prog.info? 3).map (fun i=>(i.zero,i.size,i.bytes))=some (some (.int .i64 0),1,8):=by kernel_rfl
end Go.Proofs.YthlhgiihngcobaaGreatDoor
namespace Go.Proofs.YthlhgiihngcobaaGreatDoor
open Go.RowKit
def zgD(l:List Op3)(t:Int):Bool:=l.any fun o=>o.1 == t
def dealsTo(l:List Op3):Nat->List Int
 | 0=>[]
 | n+1=>dealsTo l n++(if zgD l ((n:Int)+1)then[(n:Int)+1]else[])
def zas(l:List Op3):List Int:=dealsTo l 6
theorem zcc(l:List Op3)(n:Nat):(dealsTo l n).length<=n:=by
 induction n with
 | zero=>simp[dealsTo]
 | succ n ih=>simp only[dealsTo];split <;> simp <;> omega
theorem zkO{l:List Op3}{k:Nat}{o:Op3}(hd:l.drop k=o::l.drop (k+1))(t:Int):zgD (l.drop k) t=(o.1 == t || zgD (l.drop (k+1)) t):=by rw[hd];rfl
theorem zsT(l:List Op3)(ad:Option Addr)(b off cap:Nat)(c:Nat)(tx:Int)(w:World)(hlen:l.length<=140737488351)(ha:0<l.length->ad=some ⟨b,off,none⟩)(hbB:b<w.heap.size\/l=[])(hops:zd4 w b off l)(hc:w.cell? ⟨c,0,none⟩=some (.int .i64 tx))(hcl:c<w.heap.size):Calls Tryz.prog 183 #[.slice ad l.length cap,.func (.func 184) #[] #[.pointer (some ⟨c,0,none⟩)]] w fun e w'=>∃n:Int,e=.returned (.int .i64 n)/\decide (0<=n)=zgD l tx/\Below w.heap.size w w':=by
 go_enter Tryz.func183,Tryz.ntmps183;go_wp2
 go_loopw [8] (fun v8 wr=>∃k:Nat,k<=l.length/\v8=.int .i64 k/\zgD (l.drop k) tx=zgD l tx/\Below w.heap.size w wr) (fun v8 _=>l.length-(intOf v8).toNat)
 case atStart=>exact⟨0,Nat.zero_le _,rfl,rfl,Below.refl _ _⟩
 case round =>
  obtain⟨k,hk,rfl,hck,hbel⟩:=hrel;have HK:Hid (zgD (l.drop k) tx=zgD l tx):=hck;clear hck;by_cases hlt:k<l.length
  ·obtain rfl:=ha (by omega);obtain⟨c0,c1,c2⟩:=hops k hlt
   have hb1:b<w.heap.size:=by
    rcases hbB with h | h
    ·exact h
    ·subst h;simp at hlt
   rw[<-hbel.cell (p:=⟨b,off+k*3,none⟩) hb1]at c0;rw[<-hbel.cell (p:=⟨b,off+k*3+1,none⟩) hb1]at c1;rw[<-hbel.cell (p:=⟨b,off+k*3+2,none⟩) hb1]at c2;rw[<-hbel.cell (p:=⟨c,0,none⟩) hcl]at hc;obtain⟨⟨t,a,i⟩,ho⟩:∃o:Op3,l.getD k (0,0,0)=o:=⟨_,rfl⟩;rw[ho]at c0 c1 c2;have hsz:=hbel.size;have HD:Hid (l.drop k=(t,a,i)::l.drop (k+1)):=by show l.drop k=(t,a,i)::l.drop (k+1);rw[<-ho];simp[List.getD,List.getElem?_eq_getElem hlt]
   clear ho hops ha hbB;simp only at c0 c1 c2;cases hq:(t == tx)with
   | true =>go_wp2_with (go_at_call 184;refine(isOf1_any t a i tx c _ hc (by omega)).mono ?_;rintro e w' ⟨rfl,rfl⟩);go_ret;exact⟨k,rfl,by rw[<-HK.out,zkO HD.out];simp[hq],hbel.alloc (by omega) _⟩
   | false =>
     go_wp2_with (go_at_call 184;refine(isOf1_any t a i tx c _ hc (by omega)).mono ?_;rintro e w' ⟨rfl,rfl⟩);go_roundw
     case rel=>exact⟨k+1,by omega,by go_num,by rw[<-HK.out,zkO HD.out];simp[hq],hbel.alloc (by omega) _⟩
     case measure=>simp[intOf];omega
  ·go_wp2;go_ret;exact⟨-1,rfl,by rw[<-HK.out,List.drop_of_length_le (by omega)];rfl,hbel⟩
theorem contains_any(l:List Op3)(v:Value)(c:Nat)(tx:Int)(w:World)(hI:zai w v l)(hlen:l.length<=140737488351)(hc:w.cell? ⟨c,0,none⟩=some (.int .i64 tx))(hcl:c<w.heap.size):Calls Tryz.prog 120 #[v,.func (.func 184) #[] #[.pointer (some ⟨c,0,none⟩)]] w fun e w'=>e=.returned (.bool (zgD l tx))/\Below w.heap.size w w':=by obtain⟨ad,b,off,cap,rfl,ha,hn,hbB,hops⟩:=hI;go_enter Tryz.func120,Tryz.ntmps120;go_wp2_with (go_at_call 183;refine(zsT l ad b off cap c tx _ hlen ha hbB hops hc hcl).mono ?_;rintro e w1 ⟨n,rfl,hn1,hb1⟩);go_ret;exact⟨rfl,hb1⟩
theorem zsN(l:List Op3)(v:Value)(w:World)(h:zai w v l)(hc:(chk l).2≠0):Calls Tryz.prog 52 #[v] w fun e w'=>e=.returned (.tuple #[.slice none 0 0,.iface 80 (.int .i64 (chk l).2)])/\Below w.heap.size w w':=by go_enter Tryz.func52,Tryz.ntmps52;go_wp2_with (go_at_call 81;refine(check_bad l v _ h hc).mono ?_;rintro e w1 ⟨rfl,hb1⟩);go_ret2;exact⟨rfl,hb1⟩
theorem deals_own(l:List Op3)(v:Value)(w:World)(h:zai w v l)(hc:(chk l).2=0):Calls Tryz.prog 52 #[v] w fun e w'=>∃v',e=.returned (.tuple #[v',.nilIface])/\w'.ownsRow w.heap.size 3 1 v' (zas l).length ((zas l).map (Value.int .i64))/\Below w.heap.size w w':=by
 have hl40:=zaQ hc;go_enter Tryz.func52,Tryz.ntmps52;go_wp2_with (go_at_call 81;refine(check_ok l _ _ h hc).mono ?_;rintro e w1 ⟨rfl,hb1⟩);clear hc;have hs1:=hb1.size
 go_loopw [6,7] (fun v6 v7 wr=>∃n:Nat,n<=6/\v7=.int .i64 (n+1)/\wr.ownsRow w.heap.size 3 1 v6 (dealsTo l n).length ((dealsTo l n).map (Value.int .i64))/\Below w.heap.size w wr) (fun _ v7 _=>7-(intOf v7).toNat)
 case atStart=>exact⟨0,by omega,rfl,World.ownsRow_nil _ _ _ _,hb1⟩
 case round =>
  obtain⟨n,hn6,rfl,hown,hbel⟩:=hrel;have hsz:=hbel.size;have hdl:=zcc l n;by_cases hlt:n<6
  ·have hI:=(h.below hbel (Nat.le_refl _)).below ((Below.refl wr.heap.size wr).alloc (Nat.le_refl _) (.cells #[.int .i64 ((n:Int)+1)] 3)) (Nat.le_refl _);cases hq:zgD l ((n:Int)+1)with
   | false =>
     have HQ:Hid (dealsTo l (n+1)=dealsTo l n):=by show dealsTo l (n+1)=dealsTo l n;simp[dealsTo,hq]
     go_wp2_with (first | (go_at_call 120;refine(contains_any l v wr.heap.size ((n:Int)+1) _ hI (by omega) (by simp) (by simp)).mono ?_;rintro e w2 ⟨rfl,hb2⟩) | go_in);have hB2:=(hbel.alloc hsz (.cells #[.int .i64 ((n:Int)+1)] 3)).trans (hb2.mono (by simp;omega));go_roundw
     case rel=>exact⟨n+1,by omega,by go_num,by rw[HQ.out];exact zaG (hown.alloc _) hb2 (Nat.le_refl _),hB2⟩
     case measure=>simp[intOf];omega
   | true =>
     have HQ:Hid (dealsTo l (n+1)=dealsTo l n++[(n:Int)+1]):=by show dealsTo l (n+1)=dealsTo l n++[(n:Int)+1];simp[dealsTo,hq]
     obtain⟨i0,hi,hz0,hs0,hy0⟩:=info_parts zbK;have HI:Hid (Tryz.prog.info? 3=some i0/\i0.zero=some (.int .i64 0)/\i0.size=1/\i0.bytes=8):=⟨hi,hz0,hs0,hy0⟩;clear hi hz0 hs0 hy0;go_wp2_with (first | (go_at_call 120;refine(contains_any l v wr.heap.size ((n:Int)+1) _ hI (by omega) (by simp) (by simp)).mono ?_;rintro e w2 ⟨rfl,hb2⟩;have hown2:=zaG (hown.alloc _) hb2 (Nat.le_refl _);have hs2:=hb2.size;simp at hs2) | (at_builtin;refine wpList_append_own _ rfl (.tmp 24) (.tmp 26) 24 rfl w.heap.size 3 i0 (.int .i64 0) 1 8 Tryz.underlying24 HI.out.1 HI.out.2.1 HI.out.2.2.1 HI.out.2.2.2 rfl (by decide) u6 (dealsTo l n).length ((dealsTo l n).map (Value.int .i64)) rfl (hown2.alloc _) ⟨w2.heap.size,0,none⟩ 1 1 [.int .i64 ((n:Int)+1)] rfl rfl (cell_one_new _ _ _) (by simp[Value.oneCell']) (by unfold maxLen;omega) (by omega) (by simp;omega) ?_;intro v' w3 hown3 hgr3 hnil3) | go_in);have hB2:=(hbel.alloc hsz (.cells #[.int .i64 ((n:Int)+1)] 3)).trans (hb2.mono (by simp;omega));have hB3:=(hB2.alloc (by omega) _).grown hgr3 (by simp;omega) (fun m hm=>(hown.lt m hm).1);go_roundw
     case rel=>exact⟨n+1,by omega,by go_num,by rw[HQ.out];simpa using hown3,hB3⟩
     case measure=>simp[intOf];omega
  ·obtain rfl:n=6:=by omega
   go_wp2;go_ret2;exact⟨_,rfl,hown,hbel⟩
theorem deals_ok(l:List Op3)(v:Value)(w:World)(h:zai w v l)(hc:(chk l).2=0):Calls Tryz.prog 52 #[v] w fun e w'=>∃v',e=.returned (.tuple #[v',.nilIface])/\zaf w' v' (zas l)/\Below w.heap.size w w' :=(deals_own l v w h hc).mono fun _ _ ⟨v',he,ho,hb⟩=>⟨v',he,zap ho rfl,hb⟩
end Go.Proofs.YthlhgiihngcobaaGreatDoor
namespace Go.Proofs.YthlhgiihngcobaaGreatDoor
def zgK(l:List Op3):Prop:=l.Pairwise fun a b=>¬(a.1=b.1/\zaM a.2.1=true)
theorem zhw(l:List Op3):∀pre,(chkFrom pre l).2=0↔((∀o∈l,isOpB o=true)/\(∀o∈l,zaz pre o.1=false)/\zgK l):=by
 induction l with
 | nil=>intro pre;simp[chkFrom,zgK]
 | cons a r ih =>
   intro pre;cases h1:isOpB a with
   | false =>rw[zd1 pre r h1];simp[h1]
   | true =>
     cases h2:zaz pre a.1 with
     | true =>rw[zec r h1 h2];simp[h2]
     | false =>
       rw[zgb r h1 h2,ih];constructor
       ·rintro⟨k1,k2,k3⟩;refine⟨fun o ho=>?_,fun o ho=>?_,?_⟩
        ·rcases List.mem_cons.1 ho with rfl | ho
         ·exact h1
         ·exact k1 o ho
        ·rcases List.mem_cons.1 ho with rfl | ho
         ·exact h2
         ·have:=k2 o ho;rw[zcY]at this;exact(Bool.or_eq_false_iff.1 this).1
        ·refine List.pairwise_cons.2 ⟨fun b hb=>?_,k3⟩;have:=k2 b hb;rw[zcY]at this;have h3:=(Bool.or_eq_false_iff.1 this).2;rintro⟨e1,e2⟩;simp[e1,e2]at h3
       ·rintro⟨k1,k2,k3⟩;obtain⟨k4,k5⟩:=List.pairwise_cons.1 k3;refine⟨fun o ho=>k1 o (List.mem_cons_of_mem _ ho),fun o ho=>?_,k5⟩;rw[zcY,k2 o (List.mem_cons_of_mem _ ho)];have:=k4 o ho;by_cases e1:a.1=o.1
        ·cases e2:zaM a.2.1 with
         | true=>exact absurd ⟨e1,e2⟩ this
         | false=>simp
        ·simp[e1]
theorem zbq(l:List Op3):(chk l).2=0↔(l.length<=40/\(∀o∈l,isOpB o=true)/\zgK l):=by
 constructor
 ·intro h;have hl:=zaQ h;rw[zfN l hl,zhw]at h;exact⟨hl,h.1,h.2.2⟩
 ·rintro⟨hl,h1,h2⟩;rw[zfN l hl,zhw];exact⟨h1,fun o _=>by simp[zaz],h2⟩
theorem zAj{l m:List Op3}(h:(chk l).2=0)(hs:m.Sublist l):(chk m).2=0:=by rw[zbq]at h ⊢;exact⟨Nat.le_trans hs.length_le h.1,fun o ho=>h.2.1 o (hs.subset ho),h.2.2.sublist hs⟩
theorem chk_done{l:List Op3}(h:(chk l).2=0):(chk (doneL l)).2=0:=zAj h (List.filter_sublist ..)
theorem commIn_done(l:List Op3)(t:Nat):zci (doneL l) t=zci l t:=by
 rw[Bool.eq_iff_iff];simp only[zci,List.any_eq_true,doneL,List.mem_filter,Bool.and_eq_true,beq_iff_eq];constructor
 ·rintro⟨o,⟨h1,_⟩,h2⟩;exact⟨o,h1,h2⟩
 ·rintro⟨o,h1,h2⟩;refine⟨o,⟨h1,o,h1,?_,h2.2⟩,h2⟩;rw[h2.1];simp
theorem zvB(l:List Op3):doneL (doneL l)=doneL l:=by
 have e:doneL (doneL l)=(doneL l).filter fun o=>zci l o.1.toNat:=by unfold doneL;apply List.filter_congr;intro o _;exact commIn_done l o.1.toNat
 rw[e];unfold doneL;rw[List.filter_filter];simp
theorem zhA(l:List Op3)(n:Nat):∀t∈dealsTo l n,1<=t/\t<=n/\zgD l t=true:=by
 induction n with
 | zero=>intro t ht;simp[dealsTo]at ht
 | succ n ih =>
   intro t ht;simp only[dealsTo,List.mem_append]at ht;rcases ht with ht | ht
   ·have:=ih t ht;exact⟨this.1,by omega,this.2.2⟩
   ·cases hb:zgD l ((n:Int)+1)with
    | true=>rw[hb,if_pos rfl]at ht;simp at ht;subst ht;exact⟨by omega,by omega,hb⟩
    | false=>rw[hb]at ht;simp at ht
theorem zk6(l:List Op3)(n:Nat):(dealsTo l n).Pairwise (· < ·):=by
 induction n with
 | zero=>simp[dealsTo]
 | succ n ih =>
   simp only[dealsTo];refine List.pairwise_append.2 ⟨ih,?_,fun a ha b hb=>?_⟩
   ·split <;> simp
   ·have h1:=(zhA l n a ha).2.1;split at hb
    ·simp at hb;omega
    ·simp at hb
theorem zzc{l:List Op3}{t:Int}(h:zgD l t=false):(ofL l t).length=0:=by simp[zgD]at h;simp only[ofL];rw[List.length_eq_zero_iff,List.filter_eq_nil_iff];intro o ho;have:=h o.1 o.2.1 o.2.2 ho;simpa using this
theorem zyV{l:List Op3}{t:Int}(h:zgD l t=true):0<(ofL l t).length:=by simp only[zgD,List.any_eq_true]at h;obtain⟨o,ho,he⟩:=h;exact List.length_pos_of_mem (List.mem_filter.2 ⟨ho,he⟩)
end Go.Proofs.YthlhgiihngcobaaGreatDoor
namespace Go.Proofs.YthlhgiihngcobaaGreatDoor
theorem zd8:∀(l m:List Int),l.Pairwise (· < ·)->m.Pairwise (· < ·)->(∀x,x∈l↔x∈m)->l=m:=by
 intro l
 induction l with
 | nil =>
   intro m _ _ h;cases m with
   | nil=>rfl
   | cons b r=>exact absurd ((h b).2 (List.mem_cons_self ..)) (by simp)
 | cons a l ih =>
   intro m hl hm h;cases m with
   | nil=>exact absurd ((h a).1 (List.mem_cons_self ..)) (by simp)
   | cons b r =>
     obtain⟨l1,l2⟩:=List.pairwise_cons.1 hl;obtain⟨m1,m2⟩:=List.pairwise_cons.1 hm
     have hab:a=b:=by
      rcases List.mem_cons.1 ((h a).1 (List.mem_cons_self ..))with e | e
      ·exact e
      ·rcases List.mem_cons.1 ((h b).2 (List.mem_cons_self ..))with e2 | e2
       ·exact e2.symm
       ·have:=m1 a e;have:=l1 b e2;omega
     subst hab;congr 1;refine ih r l2 m2 fun x=>⟨fun hx=>?_,fun hx=>?_⟩
     ·rcases List.mem_cons.1 ((h x).1 (List.mem_cons_of_mem _ hx))with e | e
      ·have:=l1 x hx;omega
      ·exact e
     ·rcases List.mem_cons.1 ((h x).2 (List.mem_cons_of_mem _ hx))with e | e
      ·have:=m1 x hx;omega
      ·exact e
theorem zgh{l:List Int}(h:l.Pairwise (· < ·)):l.Nodup:=by rw[List.nodup_iff_pairwise_ne];exact h.imp fun {a b} hab=>by omega
theorem zru(l:List Op3){t:Int}(h1:1<=t)(h:zgD l t=true):∀n:Nat,t<=n->t∈dealsTo l n:=by
 intro n
 induction n with
 | zero=>intro h2;omega
 | succ n ih =>
   intro h2;simp only[dealsTo];by_cases e:t=(n:Int)+1
   ·subst e;rw[if_pos h];simp
   ·exact List.mem_append_left _ (ih (by omega))
theorem zbc{l:List Op3}{t:Int}:t∈zas l↔(1<=t/\t<=6/\zgD l t=true):=by
 constructor
 ·intro h;have:=zhA l 6 t h;exact⟨this.1,by have:=this.2.1;omega,this.2.2⟩
 ·rintro⟨h1,h2,h3⟩;exact zru l h1 h3 6 (by omega)
theorem zo7{l:List Op3}{t:Int}:zgD l t=true↔∃o∈l,o.1=t:=by simp[zgD]
def zxr(o:List Int):List Int:=o.foldl zft []
theorem zwA(x:Int):∀(o acc:List Int),x∈o.foldl zft acc↔(x∈acc\/x∈o):=by
 intro o
 induction o with
 | nil=>intro acc;simp
 | cons a r ih =>
   intro acc;rw[List.foldl_cons,ih,putL_mem,List.mem_cons];constructor
   ·rintro((h | h) | h)
    ·exact .inr (.inl h)
    ·exact .inl h
    ·exact .inr (.inr h)
   ·rintro(h | h | h)
    ·exact .inl (.inr h)
    ·exact .inl (.inl h)
    ·exact .inr h
theorem zuN:∀(o acc:List Int),acc.Pairwise (· < ·)->(o.foldl zft acc).Pairwise (· < ·):=by
 intro o
 induction o with
 | nil=>intro acc h;exact h
 | cons a r ih=>intro acc h;exact ih _ (putL_rise h a)
theorem zj4{o:List Int}{x:Int}:x∈zxr o↔x∈o:=by have:=zwA x o [];simpa[zxr]using this
theorem zjz(o:List Int):(zxr o).Pairwise (· < ·):=zuN o [] List.Pairwise.nil
theorem zdx(l:List Op3):(zas l).Pairwise (· < ·):=zk6 l 6
def sortI(o:List Int):List Int:=o.mergeSort fun x y=>decide (x<=y)
theorem zay(o:List Int):(sortI o).Perm o:=List.mergeSort_perm o _
theorem zcU(o:List Int):(sortI o).Pairwise (·<=·):=by have:=List.pairwise_mergeSort (le:=fun x y:Int=>decide (x<=y)) (by intro a b c h1 h2;simp at *;omega) (by intro a b;simp;omega) o;exact this.imp fun {a b} hab=>by simpa using hab
theorem zh9:∀(d o:List Int),d.Nodup->(∀x∈d,x∈o)->o.length<=d.length->d.Perm o:=by
 intro d
 induction d with
 | nil =>intro o _ _ h;have e:o=[]:=List.length_eq_zero_iff.1 (by simpa using h);rw[e]
 | cons a d ih =>intro o hn hs hl;have ha:a∈o:=hs a (List.mem_cons_self ..);have h1:=List.perm_cons_erase ha;have h2:=List.length_erase_of_mem ha;have hpos:=List.length_pos_of_mem ha;obtain⟨hna,hnd⟩:=List.nodup_cons.1 hn;refine((ih (o.erase a) hnd (fun x hx=>?_) (by simp at hl;omega)).cons a).trans h1.symm;have hxa:x≠a:=fun e=>hna (e ▸hx);exact(List.mem_erase_of_ne hxa).2 (hs x (List.mem_cons_of_mem _ hx))
theorem zwt{o d:List Int}(hd:d.Pairwise (· < ·)):sortI o=d↔(o.length=d.length/\zxr o=d):=by
 constructor
 ·intro h;have hp:d.Perm o:=h ▸zay o;refine⟨hp.length_eq.symm,zd8 _ _ (zjz o) hd fun x=>?_⟩;rw[zj4];exact hp.mem_iff.symm
 ·rintro⟨hl,h⟩;have hp:d.Perm o:=zh9 d o (zgh hd) (fun x hx=>zj4.1 (h ▸hx)) (by omega);have hq:(sortI o).Perm d:=(zay o).trans hp.symm;refine zd8 _ _ ?_ hd fun x=>hq.mem_iff;have hn:(sortI o).Nodup:=hq.nodup_iff.2 (zgh hd);rw[List.nodup_iff_pairwise_ne]at hn;exact((zcU o).and hn).imp fun {a b} hab=>by omega
theorem zei{o d:List Int}(h:sortI o=d):o.Perm d:=h ▸(zay o).symm
theorem ziq{l:List Op3}{o:List Int}(h:sortI o=zas l):o.length<=6:=by rw[(zei h).length_eq];exact zcc l 6
theorem zrz{l:List Op3}{o:List Int}(h:sortI o=zas l){x:Int}(hx:x∈o):1<=x/\x<=6:=by have:=zbc.1 ((zei h).mem_iff.1 hx);exact⟨this.1,this.2.1⟩
def alongL(d:List Op3)(o:List Int):List Op3:=o.flatMap fun t=>ofL d t
theorem zqr(d:List Op3)(o:List Int)(t:Int):alongL d (o++[t])=alongL d o++ofL d t:=by simp[alongL]
theorem ztX(d:List Op3)(o:List Int):(alongL d o).length<=o.length*d.length:=by
 induction o with
 | nil=>simp[alongL]
 | cons t o ih =>
   have h1:(ofL d t).length<=d.length:=List.length_filter_le ..;have h2:alongL d (t::o)=ofL d t++alongL d o:=by simp[alongL]
   rw[h2,List.length_append,List.length_cons,Nat.add_mul];omega
end Go.Proofs.YthlhgiihngcobaaGreatDoor
namespace Go.Proofs.YthlhgiihngcobaaGreatDoor
def weaveL:List Int->List Int->List Int
 | [],fr=>fr
 | b::bs,fr=>fr.takeWhile (fun x=>decide (x<b))++b::weaveL bs (fr.dropWhile fun x=>decide (x<b))
theorem weave_nil(b:List Int):weaveL b []=b:=by
 induction b with
 | nil=>rfl
 | cons a r ih=>simp[weaveL,ih]
theorem zi1{b f:Int}{bs fr:List Int}(h:f<b):weaveL (b::bs) (f::fr)=f::weaveL (b::bs) fr:=by simp[weaveL,h]
theorem zgn{b f:Int}{bs fr:List Int}(h:¬f<b):weaveL (b::bs) (f::fr)=b::weaveL bs (f::fr):=by simp[weaveL,h]
theorem zms(b:List Int):∀fr,(weaveL b fr).length=b.length+fr.length:=by
 induction b with
 | nil=>intro fr;simp[weaveL]
 | cons a r ih =>intro fr;have h1:=List.takeWhile_append_dropWhile (p:=fun x=>decide (x<a)) (l:=fr);have h2:=congrArg List.length h1;rw[List.length_append]at h2;simp only[weaveL,List.length_append,List.length_cons,ih];omega
def zjq(l:List zab):Nat->zbg->Option (List Int)
 | 0,_=>some []
 | n+1,s=>if zeo s=true then(if nextN l s=0 then none else(zjq l n (zdn s (nextN l s) false)).map ((nextN l s:Int) :: ·))else some []
theorem zhC(l:List zab):∀(n:Nat) (s:zbg) (out:List Int),orderGo l n s out=(zjq l n s).map (out ++ ·):=by
 intro n
 induction n with
 | zero=>intro s out;simp[orderGo,zjq]
 | succ n ih =>
   intro s out;simp only[orderGo,zjq];split
   ·split
    ·rfl
    ·rw[ih,Option.map_map];congr 1
     funext x
     simp
   ·simp
theorem ordF_end{l:List zab}{s:zbg}(h:zeo s=false):∀n,zjq l n s=some []:=by
 intro n;cases n with
 | zero=>rfl
 | succ n=>simp[zjq,h]
theorem zwG{s:zbg}{t:Nat}(ht:t<7)(h:s t=true):zeo s=true:=List.any_eq_true.2 ⟨t,List.mem_range.2 ht,h⟩
theorem zf1{s:zbg}(h:zeo s=false){t:Nat}(ht:t<7):s t=false:=by have:=List.any_eq_false.1 h t (List.mem_range.2 ht);simpa using this
theorem cnt_zero{s:zbg}(h:zcP s=0):zeo s=false:=by
 cases h2:zeo s with
 | false=>rfl
 | true=>have:=zge h2;omega
theorem zd2{l:List zab}{n:Nat}{s:zbg}(hn:zcP s<=n)(h:zeo s=true)(h0:nextN l s≠0):zjq l n s=(zjq l (n-1) (zdn s (nextN l s) false)).map ((nextN l s:Int) :: ·):=by
 have:=zge h
 match n,hn with
 | 0,hn=>omega
 | n+1,_=>simp[zjq,h,h0]
theorem zdX{l:List zab}{n:Nat}{s:zbg}(hn:zcP s<=n)(h:zeo s=true)(h0:nextN l s=0):zjq l n s=none:=by
 have:=zge h
 match n,hn with
 | 0,hn=>omega
 | n+1,_=>simp[zjq,h,h0]
theorem zfv{l:List zab}{s:zbg}(h0:nextN l s≠0):1<=nextN l s/\nextN l s<=6/\za8 l s (nextN l s)=true/\∀j,1<=j->j<nextN l s->za8 l s j=false:=by
 rcases next_cases l s with⟨h,_⟩ | h
 ·exact absurd h h0
 ·exact h
theorem znP{l:List zab}{s:zbg}(h0:nextN l s=0):∀j,1<=j->j<7->za8 l s j=false:=by
 rcases next_cases l s with⟨_,h⟩ | ⟨h,_⟩
 ·exact h
 ·omega
theorem zeP{l:List zab}{s:zbg}(h0:nextN l s≠0):zcP (zdn s (nextN l s) false)+1=zcP s:=by obtain⟨_,h6,hf,_⟩:=zfv h0;exact zjO (by omega) (zdm hf).1
theorem zvJ(l:List zab):∀(n m:Nat) (s:zbg),zcP s<=n->zcP s<=m->zjq l n s=zjq l m s:=by
 intro n
 induction n with
 | zero =>intro m s hn _;rw[ordF_end (cnt_zero (by omega)),ordF_end (cnt_zero (by omega))]
 | succ n ih =>
   intro m s hn hm;cases h:zeo s with
   | false=>rw[ordF_end h,ordF_end h]
   | true =>
     by_cases h0:nextN l s=0
     ·rw[zdX hn h h0,zdX hm h h0]
     ·have hc:=zeP h0;rw[zd2 hn h h0,zd2 hm h h0,Nat.add_sub_cancel,ih (m-1) _ (by omega) (by omega)]
theorem ordF_head{l:List zab}{n:Nat}{s:zbg}{o:List Int}(hn:zcP s<=n)(h:zjq l n s=some o):(o=[]/\zeo s=false)\/∃r,o=(nextN l s:Int)::r/\nextN l s≠0:=by
 cases ha:zeo s with
 | false=>rw[ordF_end ha]at h;exact .inl ⟨(Option.some.inj h).symm,rfl⟩
 | true =>
   by_cases h0:nextN l s=0
   ·rw[zdX hn ha h0]at h;cases h
   ·rw[zd2 hn ha h0]at h;obtain⟨r,_,e⟩:=Option.map_eq_some_iff.1 h;exact .inr ⟨r,e.symm,h0⟩
theorem zks(l:List zab):∀(n:Nat) (s:zbg) (o:List Int),zcP s<=n->(∀k,s k=true->1<=k/\k<=6)->zjq l n s=some o->∀x,x∈o↔∃t:Nat,x=(t:Int)/\s t=true:=by
 intro n
 induction n with
 | zero =>intro s o hn hs h x;have ha:=cnt_zero (s:=s) (by omega);rw[ordF_end ha]at h;rw[<-Option.some.inj h];refine⟨fun hx=>(by cases hx),?_⟩;rintro⟨t,_,ht⟩;rw[zf1 ha (by have:=hs t ht;omega)]at ht;cases ht
 | succ n ih =>
   intro s o hn hs h x;cases ha:zeo s with
   | false =>rw[ordF_end ha]at h;rw[<-Option.some.inj h];refine⟨fun hx=>(by cases hx),?_⟩;rintro⟨t,_,ht⟩;rw[zf1 ha (by have:=hs t ht;omega)]at ht;cases ht
   | true =>
     by_cases h0:nextN l s=0
     ·rw[zdX hn ha h0]at h;cases h
     ·rw[zd2 hn ha h0]at h;obtain⟨r,hr,e⟩:=Option.map_eq_some_iff.1 h;obtain⟨_,h6,hf,_⟩:=zfv h0;have hc:=zeP h0
      have:=ih _ r (by omega) (fun k hk=>by
       by_cases e2:k=nextN l s
       ·rw[e2,za6]at hk;cases hk
       ·rw[zaD s false e2]at hk;exact hs k hk) hr x
      rw[<-e,List.mem_cons,this];constructor
      ·rintro(rfl | ⟨t,rfl,ht⟩)
       ·exact⟨_,rfl,(zdm hf).1⟩
       ·refine⟨t,rfl,?_⟩;by_cases e2:t=nextN l s
        ·rw[e2,za6]at ht;cases ht
        ·rw[zaD s false e2]at ht;exact ht
      ·rintro⟨t,rfl,ht⟩;by_cases e2:t=nextN l s
       ·exact .inl (by rw[e2])
       ·exact .inr ⟨t,rfl,by rw[zaD s false e2];exact ht⟩
def onlyS(l:List zab)(s:zbg):zbg:=fun t=>s t && namedS l t
theorem zoR(l:List zab)(s:zbg):zcP (onlyS l s)<=zcP s:=by
 have h:∀t,(onlyS l s t).toNat<=(s t).toNat:=fun t=>by unfold onlyS;cases s t <;> cases namedS l t <;> simp
 unfold zcP;have:=h 0;have:=h 1;have:=h 2;have:=h 3;have:=h 4;have:=h 5;have:=h 6;omega
theorem zik{l:List zab}(hr:zgZ l)(s:zbg)(t:Nat)(ht:namedS l t=true):za8 l s t=za8 l (onlyS l s) t:=by
 unfold za8;have e1:onlyS l s t=s t:=by unfold onlyS;rw[ht,Bool.and_true]
 rw[e1];congr 2;refine zxQ fun e he=>?_;obtain⟨x,y,rfl,hx,hy⟩:=hr.nat he;have e2:onlyS l s x=s x:=by unfold onlyS;rw[named_from he,Bool.and_true]
 unfold zf5;simp only[Int.toNat_natCast,e2]
theorem zgm{l:List zab}(hr:zgZ l)(s:zbg)(t:Nat)(ht:namedS l t=false):za8 l s t=s t:=by
 unfold za8
 have e1:l.any (zf5 s t)=false:=by
  refine List.any_eq_false.2 fun e he=>?_;obtain⟨x,y,rfl,hx,hy⟩:=hr.nat he;have:y≠t:=fun e=>by rw[<-e,named_to he]at ht;cases ht
  simp[zf5];intro h;omega
 rw[e1];simp
theorem ziQ{l:List zab}(s:zbg)(t:Nat)(ht:namedS l t=false):za8 l (onlyS l s) t=false:=by unfold za8 onlyS;rw[ht];simp
theorem ztp{l:List zab}(hr:zgZ l):∀(n:Nat) (s:zbg) (fr:List Int) (m:Nat),zcP s<=n->(∀k,s k=true->1<=k/\k<=6)->fr.Pairwise (· < ·) ->
  (∀x,x∈fr↔∃t:Nat,x=(t:Int)/\s t=true/\namedS l t=false)->zcP (onlyS l s)<=m->zjq l n s=(zjq l m (onlyS l s)).map fun b=>weaveL b fr:=by
 intro n
 induction n with
 | zero =>
   intro s fr m hn hs hf hm hc;have ha:=cnt_zero (s:=s) (by omega);have hfr:fr=[]:=List.eq_nil_iff_forall_not_mem.2 fun x hx=>by obtain⟨t,_,ht,_⟩:=(hm x).1 hx;rw[zf1 ha (by have:=hs t ht;omega)]at ht;cases ht
   have hao:zeo (onlyS l s)=false:=cnt_zero (by have:=zoR l s;omega);rw[ordF_end ha,ordF_end hao,hfr];rfl
 | succ n ih =>
   intro s fr m hn hs hf hm hc;cases ha:zeo s with
   | false =>
     have hfr:fr=[]:=List.eq_nil_iff_forall_not_mem.2 fun x hx=>by obtain⟨t,_,ht,_⟩:=(hm x).1 hx;rw[zf1 ha (by have:=hs t ht;omega)]at ht;cases ht
     have hao:zeo (onlyS l s)=false:=cnt_zero (by have:=zoR l s;have:=zzX ha;omega);rw[ordF_end ha,ordF_end hao,hfr];rfl
   | true =>
     have hso:∀k,onlyS l s k=true->1<=k/\k<=6:=fun k hk=>hs k (by unfold onlyS at hk;simp at hk;exact hk.1);cases fr with
     | nil =>
       have e:onlyS l s=s:=by
        funext t
        unfold onlyS;cases h1:s t with
        | false=>rfl
        | true =>
          cases h2:namedS l t with
          | true=>rfl
          | false=>exact absurd ((hm t).2 ⟨t,rfl,h1,h2⟩) (by simp)
       rw[e]at hc ⊢;rw[zvJ l (n+1) m s hn hc];have:(fun b=>weaveL b [])=(id:List Int->List Int):=funext weave_nil;rw[this,Option.map_id];rfl
     | cons f fr =>
       obtain⟨t,rfl,hst,hnt⟩:=(hm f).1 (List.mem_cons_self ..);have ht:=hs t hst;obtain⟨f1,f2⟩:=List.pairwise_cons.1 hf
       have hleast:∀j:Nat,j<t->s j=true->namedS l j=true:=fun j hj h1=>by
        cases h2:namedS l j with
        | true=>rfl
        | false =>
          rcases List.mem_cons.1 ((hm j).2 ⟨j,rfl,h1,h2⟩)with h3 | h3
          ·omega
          ·have:=f1 _ h3;omega
       by_cases hb:nextN l (onlyS l s)=0\/t<nextN l (onlyS l s)
       ·have hnx:nextN l s=t:=by
         refine zhb ht.1 ht.2 (by rw[zgm hr s t hnt];exact hst) fun j hj1 hj=>?_;cases h2:namedS l j with
         | false =>
           rw[zgm hr s j h2];cases h1:s j with
           | false=>rfl
           | true=>rw[hleast j hj h1]at h2;cases h2
         | true =>
           rw[zik hr s j h2];rcases hb with hb | hb
           ·exact znP hb j hj1 (by omega)
           ·exact(zfv (by omega)).2.2.2 j hj1 (by omega)
        have h0:nextN l s≠0:=by omega
        have hcn:=zeP h0
        have eo:onlyS l (zdn s t false)=onlyS l s:=by
         funext k
         unfold onlyS;by_cases e:k=t
         ·rw[e,hnt];simp
         ·rw[zaD s false e]
        have h1:=ih (zdn s t false) fr m (by rw[hnx]at hcn;omega) (fun k hk=>by
         by_cases e:k=t
         ·rw[e,za6]at hk;cases hk
         ·rw[zaD s false e]at hk;exact hs k hk) f2 (fun x=>by
          constructor
          ·intro hx;obtain⟨k,rfl,hk1,hk2⟩:=(hm x).1 (List.mem_cons_of_mem _ hx);have:=f1 _ hx;exact⟨k,rfl,by rw[zaD s false (by omega)];exact hk1,hk2⟩
          ·rintro⟨k,rfl,hk1,hk2⟩;by_cases e:k=t
           ·rw[e,za6]at hk1;cases hk1
           ·rw[zaD s false e]at hk1;rcases List.mem_cons.1 ((hm k).2 ⟨k,rfl,hk1,hk2⟩)with h3 | h3
            ·omega
            ·exact h3) (by rw[eo];exact hc)
        rw[zd2 hn ha h0,hnx,Nat.add_sub_cancel,h1,eo,Option.map_map];cases ho:zjq l m (onlyS l s)with
        | none=>rfl
        | some o =>
          simp only[Option.map_some,Function.comp];congr 1;rcases ordF_head hc ho with⟨rfl,_⟩ | ⟨r,rfl,h3⟩
          ·rfl
          ·rcases hb with hb | hb
           ·exact absurd hb h3
           ·rw[zi1 (by omega)]
       ·have hb0:nextN l (onlyS l s)≠0:=fun h=>hb (.inl h);obtain⟨b1,b6,bf,bl⟩:=zfv hb0
        have bn:namedS l (nextN l (onlyS l s))=true:=by
         cases h2:namedS l (nextN l (onlyS l s))with
         | true=>rfl
         | false=>rw[ziQ s _ h2]at bf;cases bf
        have hbt:nextN l (onlyS l s)≠t:=fun e=>by rw[e,hnt]at bn;cases bn
        have hlt:nextN l (onlyS l s)<t:=by
         rcases Nat.lt_trichotomy t (nextN l (onlyS l s))with h | h | h
         ·exact absurd (Or.inr h) hb
         ·exact absurd h.symm hbt
         ·exact h
        have hnx:nextN l s=nextN l (onlyS l s):=by
         refine zhb b1 b6 (by rw[zik hr s _ bn];exact bf) fun j hj1 hj=>?_;cases h2:namedS l j with
         | false =>
           rw[zgm hr s j h2];cases h1:s j with
           | false=>rfl
           | true=>rw[hleast j (by omega) h1]at h2;cases h2
         | true=>rw[zik hr s j h2];exact bl j hj1 hj
        obtain⟨b,hbe⟩:∃b,nextN l (onlyS l s)=b:=⟨_,rfl⟩;rw[hbe]at hnx hlt bn bf b1 b6 hbt;have h0:nextN l s≠0:=by omega
        have hcn:=zeP h0;have hco:=zeP hb0;have hao:zeo (onlyS l s)=true:=zwG (by omega) (zdm bf).1
        have eo:onlyS l (zdn s b false)=zdn (onlyS l s) b false:=by
         funext k
         unfold onlyS zdn;by_cases e:k=b
         ·simp[e]
         ·simp[e]
        have h1:=ih (zdn s b false) (t::fr) (m-1) (by rw[hnx]at hcn;omega) (fun k hk=>by
         by_cases e:k=b
         ·rw[e,za6]at hk;cases hk
         ·rw[zaD s false e]at hk;exact hs k hk) hf (fun x=>by
          rw[hm x];constructor
          ·rintro⟨k,rfl,hk1,hk2⟩;have:k≠b:=fun e=>by rw[e,bn]at hk2;cases hk2
           exact⟨k,rfl,by rw[zaD s false this];exact hk1,hk2⟩
          ·rintro⟨k,rfl,hk1,hk2⟩;have:k≠b:=fun e=>by rw[e,bn]at hk2;cases hk2
           rw[zaD s false this]at hk1;exact⟨k,rfl,hk1,hk2⟩) (by rw[eo];rw[hbe]at hco;omega)
        rw[zd2 hn ha h0,hnx,Nat.add_sub_cancel,h1,eo,zd2 hc hao hb0,hbe,Option.map_map,Option.map_map];congr 1
        funext o
        simp only[Function.comp];rw[zgn (by omega)]
def zyj(d:List Int)(l:List zab):Option (List Int):=orderGo l 7 (zlj d []) []
theorem zm5{d:List Int}{l:List zab}(hr:zgZ l)(hd:d.Pairwise (· < ·))(hdeal:∀x∈d,1<=x/\x<=6)(hin:∀x∈namedI l,x∈d):zyj d l=(zcM l).map fun b=>weaveL b (d.filter fun x=>!inB b x):=by
 unfold zyj zcM;have hls:∀t:Nat,zlj d [] t=inB d (t:Int):=fun t=>by unfold zlj;rw[ziH.2 (by simp:(t:Int) ∉ ([]:List Int))];simp
 have eo:onlyS l (zlj d [])=namedS l:=by
  funext t
  unfold onlyS;rw[hls];cases h:namedS l t with
  | false=>simp
  | true =>rw[zfo]at h;rw[zaV.2 (hin _ (zaV.1 h))];rfl
 have h1:=ztp hr 7 (zlj d []) (d.filter fun x=>!inB (namedI l) x) 7 (cnt_le _) (fun k hk=>by
  rw[hls,zaV]at hk;have:=hdeal _ hk
  omega) (hd.sublist List.filter_sublist) (fun x=>by
   rw[List.mem_filter];constructor
   ·rintro⟨h1,h2⟩;have:=hdeal x h1;refine⟨x.toNat,by omega,?_,?_⟩
    ·rw[hls,Int.toNat_of_nonneg (by omega)];exact zaV.2 h1
    ·rw[zfo,Int.toNat_of_nonneg (by omega)];simpa using h2
   ·rintro⟨t,rfl,h1,h2⟩;rw[hls]at h1;rw[zfo]at h2;exact⟨zaV.1 h1,by rw[h2];rfl⟩) (cnt_le _)
 rw[zhC,zhC,h1,eo];cases ho:zjq l 7 (namedS l)with
 | none=>rfl
 | some o =>
   simp only[Option.map_some,List.nil_append];congr 2;refine List.filter_congr fun x hx=>?_;congr 1;have hm:=zks l 7 (namedS l) o (cnt_le _) (named_right hr) ho x;have hxd:=hdeal x hx;rw[Bool.eq_iff_iff,zaV,zaV,hm];constructor
   ·intro h;refine⟨x.toNat,by omega,?_⟩;rw[zfo,Int.toNat_of_nonneg (by omega)];exact zaV.2 h
   ·rintro⟨t,rfl,h⟩;rw[zfo]at h;exact zaV.1 h
end Go.Proofs.YthlhgiihngcobaaGreatDoor
namespace Go.Proofs.YthlhgiihngcobaaGreatDoor
theorem zcS{d:List Op3}{i:Nat}(h:i<d.length):opAt d i=d[i]:=by unfold opAt;simp[List.getD,List.getElem?_eq_getElem h]
end Go.Proofs.YthlhgiihngcobaaGreatDoor
namespace Go.Proofs.YthlhgiihngcobaaGreatDoor
def ltB(a x:zab):Bool:=decide (a.1<x.1) || (a.1 == x.1 && decide (a.2<x.2))
theorem zke{a x:zab}:ltB a x=true↔(a.1<x.1\/a.1=x.1/\a.2<x.2):=by simp[ltB]
def zmM(l:List zab):Prop:=l.Pairwise fun a b=>ltB a b=true
def zsf:List zab->zab->List zab
 | [],x=>[x]
 | a::r,x=>if ltB a x=true then a::zsf r x else if a=x then a::r else x::a::r
theorem addE_mem(l:List zab)(x y:zab):y∈zsf l x↔y=x\/y∈l:=by
 induction l with
 | nil=>simp[zsf]
 | cons a r ih =>
   simp only[zsf];split
   ·simp only[List.mem_cons,ih];constructor
    ·rintro(h | h | h)
     ·exact .inr (.inl h)
     ·exact .inl h
     ·exact .inr (.inr h)
    ·rintro(h | h | h)
     ·exact .inr (.inl h)
     ·exact .inl h
     ·exact .inr (.inr h)
   ·split
    ·rename_i h;subst h;simp only[List.mem_cons];constructor
     ·rintro(h | h)
      ·exact .inl h
      ·exact .inr (.inr h)
     ·rintro(h | h | h)
      ·exact .inl h
      ·exact .inl h
      ·exact .inr h
    ·simp
theorem ztW(l:List zab)(x:zab)(h:zmM l):zmM (zsf l x):=by
 induction l with
 | nil=>simp[zsf,zmM]
 | cons a r ih =>
   obtain⟨h1,h2⟩:=List.pairwise_cons.1 h;simp only[zsf];split
   ·rename_i hx;refine List.pairwise_cons.2 ⟨fun y hy=>?_,ih h2⟩;rcases(addE_mem r x y).1 hy with rfl | hy
    ·exact hx
    ·exact h1 y hy
   ·split
    ·exact h
    ·rename_i h3 h4;refine List.pairwise_cons.2 ⟨fun y hy=>?_,h⟩;have hxa:ltB x a=true:=by rw[zke];have h5:¬(a.1<x.1\/a.1=x.1/\a.2<x.2):=fun hh=>h3 (zke.2 hh);have h6:¬(a.1=x.1/\a.2=x.2):=fun hh=>h4 (Prod.ext hh.1 hh.2);omega
     rcases List.mem_cons.1 hy with rfl | hy
     ·exact hxa
     ·have h7:=h1 y hy;rw[zke]at hxa h7 ⊢;omega
theorem zte:∀(l m:List zab),zmM l->zmM m->(∀e,e∈l↔e∈m)->l=m:=by
 intro l
 induction l with
 | nil =>
   intro m _ _ h;cases m with
   | nil=>rfl
   | cons b s=>exact absurd ((h b).2 (List.mem_cons_self ..)) (by simp)
 | cons a r ih =>
   intro m hl hm h;cases m with
   | nil=>exact absurd ((h a).1 (List.mem_cons_self ..)) (by simp)
   | cons b s =>
     obtain⟨l1,l2⟩:=List.pairwise_cons.1 hl;obtain⟨m1,m2⟩:=List.pairwise_cons.1 hm;have irr:∀e:zab,ltB e e=false:=fun e=>by simp[ltB]
     have hab:a=b:=by
      rcases List.mem_cons.1 ((h a).1 (List.mem_cons_self ..))with e | ha
      ·exact e
      ·rcases List.mem_cons.1 ((h b).2 (List.mem_cons_self ..))with e | hb
       ·exact e.symm
       ·have k1:=m1 a ha;have k2:=l1 b hb;rw[zke]at k1 k2;omega
     subst hab;congr 1;refine ih s l2 m2 fun e=>⟨fun he=>?_,fun he=>?_⟩
     ·rcases List.mem_cons.1 ((h e).1 (List.mem_cons_of_mem _ he))with rfl | h3
      ·have:=l1 e he;rw[irr]at this;cases this
      ·exact h3
     ·rcases List.mem_cons.1 ((h e).2 (List.mem_cons_of_mem _ he))with rfl | h3
      ·have:=m1 e he;rw[irr]at this;cases this
      ·exact h3
def zfq(d:List Op3)(p:zab):zab:=((opAt d p.1.toNat).1,(opAt d p.2.toNat).1)
def zon:List zab:=(List.range 36).map fun n=>(((n / 6+1:Nat):Int),((n % 6+1:Nat):Int))
theorem zkW:zmM zon:=by unfold zmM;decide
def zhH(d:List Op3)(e:zab):Bool:=(pairsL d).any fun p=>zfq d p == e
def zaF(d:List Op3)(n:Nat):List zab:=(zon.take n).filter (zhH d)
theorem zle(n:Nat)(h:n<36):zon.take (n+1)=zon.take n++[(((n / 6+1:Nat):Int),((n % 6+1:Nat):Int))]:=by
 have hl:n<zon.length:=by simpa[zon]using h
 rw[List.take_succ_eq_append_getElem hl];simp[zon]
theorem zn3{d:List Op3}{i j:Nat}(hi:i<6)(hj:j<6)(h:zhH d (((i+1:Nat):Int),((j+1:Nat):Int))=true):zaF d (6*i+(j+1))=zaF d (6*i+j)++[(((i+1:Nat):Int),((j+1:Nat):Int))]:=by unfold zaF;rw[<-Nat.add_assoc,zle _ (by omega),show(6*i+j) / 6=i by omega,show(6*i+j) % 6=j by omega,List.filter_append];simp only[List.filter_cons,h,if_true,List.filter_nil]
theorem zlu{d:List Op3}{i j:Nat}(hi:i<6)(hj:j<6)(h:zhH d (((i+1:Nat):Int),((j+1:Nat):Int))=false):zaF d (6*i+(j+1))=zaF d (6*i+j):=by unfold zaF;rw[<-Nat.add_assoc,zle _ (by omega),show(6*i+j) / 6=i by omega,show(6*i+j) % 6=j by omega,List.filter_append];rw[List.filter_cons,h];simp
theorem zh4(d:List Op3)(n:Nat):(zaF d n).length<=36:=by
 unfold zaF;have h1:=List.length_filter_le (zhH d) (zon.take n);have h2:=List.length_take_le' n zon;have h3:zon.length=36:=by simp[zon]
 omega
theorem zoY{a b:Int}(h1:1<=a)(h2:a<=6)(h3:1<=b)(h4:b<=6):(a,b)∈zon:=by unfold zon;refine List.mem_map.2 ⟨6*(a.toNat-1)+(b.toNat-1),List.mem_range.2 (by omega),?_⟩;refine Prod.ext ?_ ?_ <;> simp <;> omega
end Go.Proofs.YthlhgiihngcobaaGreatDoor
namespace Go.Proofs.YthlhgiihngcobaaGreatDoor
theorem zos{ps d:List Int}(hn:ps.Nodup)(hd:d.Pairwise (· < ·))(h:∀x,x∈ps↔x∈d):sortI ps=d:=by have h1:(sortI ps).Nodup:=(zay ps).nodup_iff.2 hn;rw[List.nodup_iff_pairwise_ne]at h1;exact zd8 _ _ (((zcU ps).and h1).imp fun {a b} hab=>by omega) hd fun x=>((zay ps).mem_iff).trans (h x)
theorem ze9(d:List Op3)(n:Nat):zgZ (zaF d n):=fun e he=>by have h1:=(List.mem_filter.1 he).1;have h2:=List.mem_of_mem_take h1;unfold zon at h2;obtain⟨k,hk,rfl⟩:=List.mem_map.1 h2;have:=List.mem_range.1 hk;simp only;omega
theorem zrl(d:List Op3)(n:Nat):gchk (zaF d n)=0:=by have h1:=zh4 d n;unfold gchk;rw[if_neg (by omega),if_neg];intro h;obtain⟨e,he,h2⟩:=List.any_eq_true.1 h;have:=ze9 d n e he;simp[zdI,zeh,this]at h2
end Go.Proofs.YthlhgiihngcobaaGreatDoor
