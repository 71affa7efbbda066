/-
  PROVED HERE: how a list of edges lies in memory, as a slice value that came in or that the program made itself; a region that draws its order, whose own operations only read and whose callees may make new memory.
  Conditions: none but those that each theorem's own premises say.
-/
import Derived.Test.YthlhgiihngcobaaGreatDoorProg
import Derived.Test.YthlhgiihngcobaaGreatDoorMgag
import Derived.WalkKit
import Derived.WalkSpells
import Derived.Handy
import Derived.Deep.QuietTactic
import Derived.BigQuiet
import Derived.WalkSmall
import Derived.Deep.RegionLaw
import Derived.Laws.AppendOwn
set_option maxHeartbeats 32000000
set_option maxRecDepth 100000
namespace Go.Proofs.YthlhgiihngcobaaGreatDoor
open Go.RowKit
def flatE:List zaa->List Value
 | []=>[]
 | o::r=>.int .i64 o.1 :: .int .i64 o.2::flatE r
theorem zcl(l m:List zaa):flatE (l++m)=flatE l++flatE m:=by
 induction l with
 | nil=>rfl
 | cons o r ih=>simp[flatE,ih]
theorem zd6(l:List zaa):∀u∈flatE l,u.oneCell'=true:=by
 induction l with
 | nil=>intro u hu;cases hu
 | cons o r ih =>
   intro u hu;simp only[flatE,List.mem_cons]at hu;rcases hu with rfl | rfl | hu
   ·rfl
   ·rfl
   ·exact ih u hu
theorem zhZ(l:List zaa):∀i,i<l.length->(flatE l)[i*2]? = some (.int .i64 (l.getD i (0,0)).1)/\(flatE l)[i*2+1]? = some (.int .i64 (l.getD i (0,0)).2):=by
 induction l with
 | nil=>intro i hi;cases hi
 | cons o r ih =>
   intro i hi;cases i with
   | zero=>exact⟨rfl,rfl⟩
   | succ i =>have:=ih i (by simpa using hi);rw[show(i+1)*2=i*2+2 by omega];simpa[flatE]using this
def zeA(w:World)(b off:Nat)(l:List zaa):Prop :=∀i,i<l.length->w.cell? ⟨b,off+i*2,none⟩=some (.int .i64 (l.getD i (0,0)).1)/\w.cell? ⟨b,off+i*2+1,none⟩=some (.int .i64 (l.getD i (0,0)).2)
theorem ziv{w:World}{b off:Nat}{l:List zaa}(h:∀j u,(flatE l)[j]? = some u->w.cell? ⟨b,off+j,none⟩=some u):zeA w b off l:=by intro i hi;obtain⟨h0,h1⟩:=zhZ l i hi;exact⟨h _ _ h0,by rw[Nat.add_assoc];exact h _ _ h1⟩
theorem zeA.below{w w1:World}{b off B:Nat}{l:List zaa}(h:zeA w b off l)(hb:Below B w w1)(hB:b<B\/l=[]):zeA w1 b off l:=by
 intro i hi
 have hB':b<B:=by
  rcases hB with h | h
  ·exact h
  ·subst h;cases hi
 rw[hb.cell (p:=⟨b,off+i*2,none⟩) hB',hb.cell (p:=⟨b,off+i*2+1,none⟩) hB'];exact h i hi
theorem zhV:(Tryz.prog.info? 131).map (fun i=>(i.zero,i.size,i.bytes))=some (some (.agg #[.int .i64 0,.int .i64 0]),2,16):=by kernel_rfl
def zae(w:World)(v:Value)(l:List zaa):Prop :=∃(ad:Option Addr) (b off cap:Nat),v=.slice ad l.length cap/\(0<l.length->ad=some ⟨b,off,none⟩)/\(ad=none->l.length=0/\cap=0)/\(b<w.heap.size\/l=[])/\zeA w b off l
theorem zae.below{w w1:World}{B:Nat}{v:Value}{l:List zaa}(h:zae w v l)(hb:Below B w w1)(hB:w.heap.size<=B):zae w1 v l:=by
 obtain⟨ad,b,off,cap,hv,ha,hn,hbB,hops⟩:=h;have hs:=hb.size;refine⟨ad,b,off,cap,hv,ha,hn,?_,hops.below hb ?_⟩
 ·rcases hbB with h | h
  ·exact .inl (by omega)
  ·exact .inr h
 ·rcases hbB with h | h
  ·exact .inl (by omega)
  ·exact .inr h
theorem zhm(w:World):zae w (.slice none 0 0) []:=⟨none,0,0,0,rfl,fun h=>absurd h (by simp),fun _=>⟨rfl,rfl⟩,.inr rfl,fun i hi=>by simp at hi⟩
theorem zcJ{w:World}{base e n:Nat}{v:Value}{l:List zaa}(h:w.ownsRow base e 2 v n (flatE l))(hl:l.length=n):zae w v l:=by
 have h':=h;obtain⟨_,⟨hv,hd⟩ | ⟨g,cap,cur,hv,hb,hg,hn,hm,hsz,htk⟩⟩:=h'
 ·have:l=[]:=List.length_eq_zero_iff.1 (by omega);subst this;rw[hv];exact zhm w
 ·refine⟨some ⟨g,0,none⟩,g,0,cap,by rw[hl];exact hv,fun _=>rfl,fun h=>(by simp at h),.inl (h.lt g (by rw[hv];rfl)).2,ziv fun j u hj=>?_⟩;have:=h.cells (g:=g) (by rw[hv];rfl) j u hj;rw[Addr.add_lit]at this;exact this
theorem zhU(w:World)(t a:Int):∀j u,(flatE [(t,a)])[j]? = some u->(w.alloc (.cells #[.int .i64 t,.int .i64 a] 131)).cell? ((⟨w.heap.size,0,none⟩:Addr).add j)=some u:=by
 intro j u hj
 match j,hj with
 | 0,hj=>simp[flatE]at hj;subst hj;simp[Addr.add]
 | 1,hj=>simp[flatE]at hj;subst hj;simp[Addr.add]
 | k+2,hj=>simp[flatE]at hj
end Go.Proofs.YthlhgiihngcobaaGreatDoor
namespace Go.Proofs.YthlhgiihngcobaaGreatDoor
open Go.RowKit
structure za2(B:Nat)(w:World) where
 W:World
 h:Below B w W
theorem zgu{P:Program}{id:Nat}{Q:Exit->Act->World->Prop}{a:Act}{w:World}{l:List Oper}(B:Nat)(hm:P.follows .mixedOrders=true)(hB:Region.lexB .any l.toArray=true)
  (h:wpQuiet P l.toArray (fun w'=>∃x:za2 B w,w'=x.W) (fun a'=>∀w',(∃x:za2 B w,w'=x.W)->Q .normal a' w') l a):(Code.region id l.toArray true).wp P Q a w :=
 wp_region_quiet (C:=fun w'=>∃x:za2 B w,w'=x.W) hm hB ⟨⟨w.drew,(Below.refl B w).drew⟩,rfl⟩ (by simpa using h)
theorem za2.at{P:Program}{f:FuncId}{args:Array Value}{B:Nat}{w:World}{v:Value}(x:za2 B w)(hB:B<=w.heap.size)
  (h:Calls P f args x.W fun e w'=>e=.returned v/\Below x.W.heap.size x.W w'):Calls P f args x.W fun e w'=>e=.returned v/\∃y:za2 B w,w'=y.W :=
 h.mono fun _ w' ⟨he,hb⟩=>⟨he,⟨w',x.h.trans (hb.mono (Nat.le_trans hB x.h.size))⟩,rfl⟩
theorem zcq{P:Program}{ops:Array Oper}{o:Oper}{a:Act}{w:World}{K:Act->World->Prop}{Q:Exit->Act->World->Prop}{E:Prop}
  (hgd:o.guard=none) (s x:Operand) (t:TypeId) (ho:o.op=.call { callee:=.builtin .append,args:=#[s,x],argTypes:=#[t,t] })
  (base:Nat) (e:TypeId) (i:TypeInfo) (z:Value) (size bytes:Nat) (ht:P.underlying t=some (.slice e)) (hi:P.info? e=some i) (hz:i.zero=some z)
  (hsize:i.size=size) (hby:i.bytes=bytes) (hzs:z.cells.size=size) (hsz:0<size)
  (v:Value) (n:Nat) (xs:List Value) (hs:a.eval s=v) (hown:w.ownsRow base e size v n xs)
  (ad:Addr) (m c:Nat) (news:List Value) (hx:a.eval x=.slice (some ad) m c) (hl:news.length=m*size) (hnews:∀j u,news[j]? = some u->w.cell? (ad.add j)=some u) (h1:∀u∈news,u.oneCell'=true)
  (h63:n+m<=maxLen) (hbytes:(n+m)*bytes<=140737488355328) (hbase:base<=w.heap.size)
  (h:∀v' w',w'.ownsRow base e size v' (n+m) (xs++news)->w.grownBy w' v.ownBlock->(v'=.slice none 0 0↔v=.slice none 0 0/\m=0)->K (a.put o.dst v') w') :
  if Region.wanted o (yielded ops a.tmps)=true then Oper.wp P o a w K Q else E:=by
 have hw:Region.wanted o (yielded ops a.tmps)=true:=by simp[Region.wanted,hgd]
 rw[if_pos hw];exact wp_append_own w s x t ho base e i z size bytes ht hi hz hsize hby hzs hsz v n xs hs hown ad m c news hx hl hnews h1 h63 hbytes hbase h
end Go.Proofs.YthlhgiihngcobaaGreatDoor
