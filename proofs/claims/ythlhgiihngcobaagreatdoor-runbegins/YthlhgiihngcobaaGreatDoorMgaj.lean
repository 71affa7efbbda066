/-
  PROVED HERE: plain facts, with no word of the program; how a list of edges lies in memory, as a slice value that came in or that the program made itself; a region that draws its order, whose own operations only read and whose callees may make new memory; a row of bools in a block of memory, and what becomes of it when one of them is set, when memory is made, and.
  Conditions: none but those that each theorem's own premises say.
-/
import Derived.Test.YthlhgiihngcobaaGreatDoorMgai
import Derived.Test.YthlhgiihngcobaaGreatDoorProg
import Derived.Test.YthlhgiihngcobaaGreatDoorMgaf
import Derived.WalkKit
import Derived.WalkSpells
import Derived.Handy
import Derived.Deep.QuietTactic
import Derived.BigQuiet
import Derived.WalkSmall
import Derived.Deep.RegionLaw
import Derived.Laws.AppendOwn
import Derived.Test.YthlhgiihngcobaaGreatDoorMgag
set_option maxHeartbeats 32000000
set_option maxRecDepth 100000
namespace Go.Proofs.YthlhgiihngcobaaGreatDoor
theorem zwM:∀ {o:List Int} {i j:Nat} {x y:Int},i<j->o[i]? = some x->o[j]? = some y->[x,y].Sublist o:=by
 intro o
 induction o with
 | nil=>intro i j x y _ h _;simp at h
 | cons a r ih =>
   intro i j x y hij hi hj;cases j with
   | zero=>omega
   | succ j =>
     simp only[List.getElem?_cons_succ]at hj;cases i with
     | zero =>simp only[List.getElem?_cons_zero,Option.some.injEq]at hi;subst hi;exact List.Sublist.cons_cons _ (List.singleton_sublist.2 (List.mem_of_getElem? hj))
     | succ i =>simp only[List.getElem?_cons_succ]at hi;exact(ih (by omega) hi hj).cons _
def zBX(l:List zab)(o:List Int):Prop:=∀e∈l,[e.1,e.2].Sublist o
theorem zs1(l:List zab):∀(n:Nat) (s:zbg) (o:List Int),zcP s<=n->(∀k,s k=true->1<=k/\k<=6)->zjq l n s=some o->o.Nodup:=by
 intro n
 induction n with
 | zero =>intro s o hn _ h;rw[ordF_end (cnt_zero (s:=s) (by omega))]at h;rw[<-Option.some.inj h];exact List.nodup_nil
 | succ n ih =>
   intro s o hn hs h;cases ha:zeo s with
   | false=>rw[ordF_end ha]at h;rw[<-Option.some.inj h];exact List.nodup_nil
   | true =>
     by_cases h0:nextN l s=0
     ·rw[zdX hn ha h0]at h;cases h
     ·rw[zd2 hn ha h0]at h;obtain⟨r,hr,e⟩:=Option.map_eq_some_iff.1 h;have hc:=zeP h0
      have hs2:∀k,zdn s (nextN l s) false k=true->1<=k/\k<=6:=fun k hk=>by
       by_cases e2:k=nextN l s
       ·rw[e2,za6]at hk;cases hk
       ·rw[zaD s false e2]at hk;exact hs k hk
      rw[<-e];refine List.nodup_cons.2 ⟨fun hm=>?_,ih _ r (by omega) hs2 hr⟩;obtain⟨t,ht,h2⟩:=(zks l _ _ r (by omega) hs2 hr _).1 hm;have:t=nextN l s:=by omega
      rw[this,za6]at h2;cases h2
theorem zsg(b:List Int):∀fr,b.Sublist (weaveL b fr):=by
 induction b with
 | nil=>intro fr;exact List.nil_sublist _
 | cons a r ih =>intro fr;exact(((ih _).cons_cons a)).trans (List.sublist_append_right _ _)
theorem zhM{d:List Op3}(hd:∀x∈d,1<=x.1/\x.1<=6){o:List Int}(h:zcF d=some o):sortI o=zas d/\zBX (zaF d 36) o:=by
 have h1:=zmY hd;rw[h]at h1;unfold zyj at h1;rw[zhC]at h1;obtain⟨q,hq,e⟩:=Option.map_eq_some_iff.1 h1;simp only[List.nil_append]at e;subst e;have hls:∀t:Nat,zlj (zas d) [] t=inB (zas d) (t:Int):=fun t=>by unfold zlj;rw[ziH.2 (by simp:(t:Int) ∉ ([]:List Int))];simp
 have hs:∀k,zlj (zas d) [] k=true->1<=k/\k<=6:=fun k hk=>by rw[hls,zaV]at hk;have:=zbc.1 hk;omega
 refine⟨zos (zs1 _ 7 _ q (cnt_le _) hs hq) (zdx d) fun x=>?_,fun e he=>?_⟩
 ·rw[zks _ 7 _ q (cnt_le _) hs hq];constructor
  ·rintro⟨t,rfl,ht⟩;rw[hls,zaV]at ht;exact ht
  ·intro hx;have:=zbc.1 hx;exact⟨x.toNat,by omega,by rw[hls,Int.toNat_of_nonneg (by omega)];exact zaV.2 hx⟩
 ·unfold zcF at h;obtain⟨b,hb,e2⟩:=Option.map_eq_some_iff.1 h;have hr:=ze9 d 36;rcases order_either hr with⟨b',hb',hio⟩ | ⟨hb',_⟩
  ·rw[hb]at hb';cases hb';obtain⟨x,y,rfl,_,_⟩:=hr.nat he;obtain⟨i,j,hij,hi,hj⟩:=hio.back x y he;rw[<-e2];exact(zwM hij hi hj).trans (zsg b _)
  ·rw[hb]at hb';cases hb'
end Go.Proofs.YthlhgiihngcobaaGreatDoor
namespace Go.Proofs.YthlhgiihngcobaaGreatDoor
open Go.RowKit
def flatE:List zab->List Value
 | []=>[]
 | o::r=>.int .i64 o.1 :: .int .i64 o.2::flatE r
theorem zcf(l m:List zab):flatE (l++m)=flatE l++flatE m:=by
 induction l with
 | nil=>rfl
 | cons o r ih=>simp[flatE,ih]
theorem zes(l:List zab):∀u∈flatE l,u.oneCell'=true:=by
 induction l with
 | nil=>intro u hu;cases hu
 | cons o r ih =>
   intro u hu;simp only[flatE,List.mem_cons]at hu;rcases hu with rfl | rfl | hu
   ·rfl
   ·rfl
   ·exact ih u hu
theorem zkF(l:List zab):∀i,i<l.length->(flatE l)[i*2]? = some (.int .i64 (l.getD i (0,0)).1)/\(flatE l)[i*2+1]? = some (.int .i64 (l.getD i (0,0)).2):=by
 induction l with
 | nil=>intro i hi;cases hi
 | cons o r ih =>
   intro i hi;cases i with
   | zero=>exact⟨rfl,rfl⟩
   | succ i =>have:=ih i (by simpa using hi);rw[show(i+1)*2=i*2+2 by omega];simpa[flatE]using this
def zhy(w:World)(b off:Nat)(l:List zab):Prop :=∀i,i<l.length->w.cell? ⟨b,off+i*2,none⟩=some (.int .i64 (l.getD i (0,0)).1)/\w.cell? ⟨b,off+i*2+1,none⟩=some (.int .i64 (l.getD i (0,0)).2)
theorem zqf{w:World}{b off:Nat}{l:List zab}(h:∀j u,(flatE l)[j]? = some u->w.cell? ⟨b,off+j,none⟩=some u):zhy w b off l:=by intro i hi;obtain⟨h0,h1⟩:=zkF l i hi;exact⟨h _ _ h0,by rw[Nat.add_assoc];exact h _ _ h1⟩
theorem zhy.below{w w1:World}{b off B:Nat}{l:List zab}(h:zhy w b off l)(hb:Below B w w1)(hB:b<B\/l=[]):zhy w1 b off l:=by
 intro i hi
 have hB':b<B:=by
  rcases hB with h | h
  ·exact h
  ·subst h;cases hi
 rw[hb.cell (p:=⟨b,off+i*2,none⟩) hB',hb.cell (p:=⟨b,off+i*2+1,none⟩) hB'];exact h i hi
theorem zg9:(Tryz.prog.info? 131).map (fun i=>(i.zero,i.size,i.bytes))=some (some (.agg #[.int .i64 0,.int .i64 0]),2,16):=by kernel_rfl
def zaj(w:World)(v:Value)(l:List zab):Prop :=∃(ad:Option Addr) (b off cap:Nat),v=.slice ad l.length cap/\(0<l.length->ad=some ⟨b,off,none⟩)/\(ad=none->l.length=0/\cap=0)/\(b<w.heap.size\/l=[])/\zhy w b off l
theorem zaj.below{w w1:World}{B:Nat}{v:Value}{l:List zab}(h:zaj w v l)(hb:Below B w w1)(hB:w.heap.size<=B):zaj w1 v l:=by
 obtain⟨ad,b,off,cap,hv,ha,hn,hbB,hops⟩:=h;have hs:=hb.size;refine⟨ad,b,off,cap,hv,ha,hn,?_,hops.below hb ?_⟩
 ·rcases hbB with h | h
  ·exact .inl (by omega)
  ·exact .inr h
 ·rcases hbB with h | h
  ·exact .inl (by omega)
  ·exact .inr h
theorem znu(w:World):zaj w (.slice none 0 0) []:=⟨none,0,0,0,rfl,fun h=>absurd h (by simp),fun _=>⟨rfl,rfl⟩,.inr rfl,fun i hi=>by simp at hi⟩
theorem zbL{w:World}{base e n:Nat}{v:Value}{l:List zab}(h:w.ownsRow base e 2 v n (flatE l))(hl:l.length=n):zaj w v l:=by
 have h':=h;obtain⟨_,⟨hv,hd⟩ | ⟨g,cap,cur,hv,hb,hg,hn,hm,hsz,htk⟩⟩:=h'
 ·have:l=[]:=List.length_eq_zero_iff.1 (by omega);subst this;rw[hv];exact znu w
 ·refine⟨some ⟨g,0,none⟩,g,0,cap,by rw[hl];exact hv,fun _=>rfl,fun h=>(by simp at h),.inl (h.lt g (by rw[hv];rfl)).2,zqf fun j u hj=>?_⟩;have:=h.cells (g:=g) (by rw[hv];rfl) j u hj;rw[Addr.add_lit]at this;exact this
theorem zhe(w:World)(t a:Int):∀j u,(flatE [(t,a)])[j]? = some u->(w.alloc (.cells #[.int .i64 t,.int .i64 a] 131)).cell? ((⟨w.heap.size,0,none⟩:Addr).add j)=some u:=by
 intro j u hj
 match j,hj with
 | 0,hj=>simp[flatE]at hj;subst hj;simp[Addr.add]
 | 1,hj=>simp[flatE]at hj;subst hj;simp[Addr.add]
 | k+2,hj=>simp[flatE]at hj
end Go.Proofs.YthlhgiihngcobaaGreatDoor
namespace Go.Proofs.YthlhgiihngcobaaGreatDoor
open Go.RowKit
structure zbe(B:Nat)(w:World) where
 W:World
 h:Below B w W
theorem zc2{P:Program}{id:Nat}{Q:Exit->Act->World->Prop}{a:Act}{w:World}{l:List Oper}(B:Nat)(hm:P.follows .mixedOrders=true)(hB:Region.lexB .any l.toArray=true)
  (h:wpQuiet P l.toArray (fun w'=>∃x:zbe B w,w'=x.W) (fun a'=>∀w',(∃x:zbe B w,w'=x.W)->Q .normal a' w') l a):(Code.region id l.toArray true).wp P Q a w :=
 wp_region_quiet (C:=fun w'=>∃x:zbe B w,w'=x.W) hm hB ⟨⟨w.drew,(Below.refl B w).drew⟩,rfl⟩ (by simpa using h)
theorem zbe.at{P:Program}{f:FuncId}{args:Array Value}{B:Nat}{w:World}{v:Value}(x:zbe B w)(hB:B<=w.heap.size)
  (h:Calls P f args x.W fun e w'=>e=.returned v/\Below x.W.heap.size x.W w'):Calls P f args x.W fun e w'=>e=.returned v/\∃y:zbe B w,w'=y.W :=
 h.mono fun _ w' ⟨he,hb⟩=>⟨he,⟨w',x.h.trans (hb.mono (Nat.le_trans hB x.h.size))⟩,rfl⟩
theorem zcD{P:Program}{ops:Array Oper}{o:Oper}{a:Act}{w:World}{K:Act->World->Prop}{Q:Exit->Act->World->Prop}{E:Prop}
  (hgd:o.guard=none) (s x:Operand) (t:TypeId) (ho:o.op=.call { callee:=.builtin .append,args:=#[s,x],argTypes:=#[t,t] })
  (base:Nat) (e:TypeId) (i:TypeInfo) (z:Value) (size bytes:Nat) (ht:P.underlying t=some (.slice e)) (hi:P.info? e=some i) (hz:i.zero=some z)
  (hsize:i.size=size) (hby:i.bytes=bytes) (hzs:z.cells.size=size) (hsz:0<size)
  (v:Value) (n:Nat) (xs:List Value) (hs:a.eval s=v) (hown:w.ownsRow base e size v n xs)
  (ad:Addr) (m c:Nat) (news:List Value) (hx:a.eval x=.slice (some ad) m c) (hl:news.length=m*size) (hnews:∀j u,news[j]? = some u->w.cell? (ad.add j)=some u) (h1:∀u∈news,u.oneCell'=true)
  (h63:n+m<=maxLen) (hbytes:(n+m)*bytes<=140737488355328) (hbase:base<=w.heap.size)
  (h:∀v' w',w'.ownsRow base e size v' (n+m) (xs++news)->w.grownBy w' v.ownBlock->(v'=.slice none 0 0↔v=.slice none 0 0/\m=0)->K (a.put o.dst v') w') :
  if Region.wanted o (yielded ops a.tmps)=true then Oper.wp P o a w K Q else E:=by
 have hw:Region.wanted o (yielded ops a.tmps)=true:=by simp[Region.wanted,hgd]
 rw[if_pos hw];exact wp_append_own w s x t ho base e i z size bytes ht hi hz hsize hby hzs hsz v n xs hs hown ad m c news hx hl hnews h1 h63 hbytes hbase h
end Go.Proofs.YthlhgiihngcobaaGreatDoor
namespace Go.Proofs.YthlhgiihngcobaaGreatDoor
open Go.RowKit
def zao(w:World)(b n:Nat)(s:zbg):Prop:=∀k,k<n->w.cell? ⟨b,k,none⟩=some (.bool (s k))/\w.frozen? ⟨b,k,none⟩=false
theorem zao.congr{w:World}{b n:Nat}{s r:zbg}(h:zao w b n s)(he:∀k,k<n->s k=r k):zao w b n r:=fun k hk=>by rw[<-he k hk];exact h k hk
theorem zao.drew{w:World}{b n:Nat}{s:zbg}(h:zao w b n s):zao w.drew b n s:=h
theorem zao.lt{w:World}{b n:Nat}{s:zbg}(h:zao w b n s)(hn:0<n):b<w.heap.size:=by have:=World.block_lt_of_cell? w _ (h 0 hn).1;simpa using this
theorem zao.below{w w1:World}{b n B:Nat}{s:zbg}(h:zao w b n s)(hb:Below B w w1)(hB:b<B):zao w1 b n s:=fun k hk=>by rw[hb.cell (p:=⟨b,k,none⟩) hB,hb.frozen (p:=⟨b,k,none⟩) hB];exact h k hk
theorem zao.alloc{w:World}{b n:Nat}{s:zbg}(h:zao w b n s)(o:Obj):zao (w.alloc o) b n s:=fun k hk=>by
 have hlt:b<w.heap.size:=by have:=World.block_lt_of_cell? w _ (h k hk).1;simpa using this
 rw[World.cell?_alloc_lt _ _ _ hlt,World.frozen?_alloc_old _ _ _ (Nat.ne_of_lt hlt)];exact h k hk
theorem zao.set{w:World}{b n t:Nat}{s:zbg}(h:zao w b n s)(x:Bool)(ht:t<n):zao (w.setCell ⟨b,t,none⟩ (.bool x)) b n (zdn s t x):=fun k hk=>by
 rw[World.frozen?_setCell];refine⟨?_,(h k hk).2⟩;unfold zdn;by_cases e:k=t
 ·subst e;rw[if_pos rfl];exact World.cell?_setCell_same _ _ _ (h k hk).1
 ·rw[if_neg e,World.cell?_setCell_other _ _ _ _ (by simp <;> omega)];exact(h k hk).1
theorem zao.far{w:World}{b n:Nat}{s:zbg}(h:zao w b n s){p:Addr}(v:Value)(hp:p.block≠b):zao (w.setCell p v) b n s:=fun k hk=>by rw[World.frozen?_setCell,World.cell?_setCell_other _ _ _ _ (by intro e;exact hp (congrArg Addr.block e))];exact h k hk
theorem zao.grown{w w1:World}{b n:Nat}{s:zbg}{row:Option Nat}(h:zao w b n s)(hg:w.grownBy w1 row)(hlt:b<w.heap.size)(hne:row≠some b):zao w1 b n s:=fun k hk=>by have hb:=hg.block b hlt (Ne.symm hne);rw[World.cell?_of_block (w:=w) (a:=⟨b,k,none⟩) hb,World.frozen?_of_block (w:=w) (a:=⟨b,k,none⟩) hb];exact h k hk
theorem zcu(w:World)(s:zbg)(T:TypeId):zao (w.alloc (.cells #[.bool (s 0),.bool (s 1),.bool (s 2),.bool (s 3),.bool (s 4),.bool (s 5),.bool (s 6)] T)) w.heap.size 7 s:=fun k hk=>by rw[World.cell?_alloc_new,World.frozen?_alloc_new];refine⟨?_,rfl⟩;rcases(show k=0\/k=1\/k=2\/k=3\/k=4\/k=5\/k=6 by omega)with h | h | h | h | h | h | h <;> subst h <;> rfl
end Go.Proofs.YthlhgiihngcobaaGreatDoor
