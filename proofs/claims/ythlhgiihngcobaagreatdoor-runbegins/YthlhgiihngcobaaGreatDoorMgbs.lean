/-
  PROVED HERE: how a run of package course (two rules, who is done, three maps; what package course and the rules of its runs call of Go's library, at their types; what a run of package course (as it lies in memory) answers to those that ask it; slices.Backward over a row of deals hands each to the loop's body, from the last on.
  Conditions: none but those that each theorem's own premises say.
-/
import Derived.Test.YthlhgiihngcobaaGreatDoorMgbr
import Derived.Test.YthlhgiihngcobaaGreatDoorMgbg
import Derived.Test.YthlhgiihngcobaaGreatDoorMgbh
import Derived.Test.YthlhgiihngcobaaGreatDoorMgah
import Derived.Test.YthlhgiihngcobaaGreatDoorMgaf
import Derived.Test.YthlhgiihngcobaaGreatDoorMgau
import Derived.Deep.Cut
import Derived.Deep.RegionHeld3
import Derived.RangeFuncNested
import Derived.RangeFuncBox
import Derived.RangeFuncBound
import Derived.RangeFuncCalls
import Derived.RangeFuncLeaves
import Derived.Shelf.Abstract
import Derived.Shelf.RegionOpen
import Derived.WalkKit
import Derived.OwnWalkIn
import Derived.TacticsInMore
import Derived.LoopNIn
import Derived.LoopIn
set_option maxHeartbeats 32000000
set_option maxRecDepth 100000
namespace Go.Proofs.YthlhgiihngcobaaGreatDoor
open Go.RowKit
structure zbZ where
 dv:Value
 B:Nat
 D:Nat
 W:Nat
 hr:Int->Option Value
 hw:Int->Option Value
def zbZ.rv(c:zbZ)(d:Int):Value:=(c.hr d).getD (.slice none 0 0)
def zbZ.wv(c:zbZ)(d:Int):Value:=(c.hw d).getD (.slice none 0 0)
def zbF(R:Nat)(c:zbZ)(i k:Nat):Prop :=
 match i with
 | 0=>k=R
 | 1=>c.dv.ownBlock=some k
 | 2=>k=c.B
 | 3=>k=c.D
 | 4=>k=c.W
 | d+5=>if d<7 then(c.rv (d:Int)).ownBlock=some k else(c.wv ((d-7:Nat):Int)).ownBlock=some k
theorem zcm(R:Nat)(c:zbZ){d:Nat}(hd:d<7)(k:Nat):zbF R c (d+5) k↔(c.rv (d:Int)).ownBlock=some k:=by show(if d<7 then _ else _)↔_;rw[if_pos hd]
theorem zcC(R:Nat)(c:zbZ)(d:Nat)(k:Nat):zbF R c (d+12) k↔(c.wv (d:Int)).ownBlock=some k:=by show(if d+7<7 then(c.rv ((d+7:Nat):Int)).ownBlock=some k else(c.wv ((d+7-7:Nat):Int)).ownBlock=some k)↔_;rw[if_neg (by omega),show d+7-7=d by omega]
def zfY(S F:Value)(c:zbZ):Array Value:=#[S,F,c.dv,.map (some c.B),.map (some c.D),.map (some c.W)]
def zgV(b:Int->Option Nat)(t:Int):Option Value:=(b t).map fun n=>Value.int .i64 (n:Int)
structure zaq(w0 w:World)(R:Nat)(S F:Value)(q:Crs)(c:zbZ):Prop where
 blk:w.heap[R]? = some (.cells (zfY S F c) 224 (0,0))
 done:w.ownsRow w0.heap.size 3 1 c.dv q.done.length (q.done.map (Value.int .i64))
 beg:∃m,zax w c.B (zgV q.began) m
 rd:∃m,zax w c.D c.hr m
 wr:∃m,zax w c.W c.hw m
 rrow:∀d:Nat,d<7->w.ownsRow w0.heap.size 230 3 (c.rv (d:Int)) (q.read (d:Int)).length (flat (q.read (d:Int)))
 wrow:∀d:Nat,d<7->w.ownsRow w0.heap.size 3 1 (c.wv (d:Int)) (q.wrote (d:Int)).length ((q.wrote (d:Int)).map (Value.int .i64))
 apart:∀i j k,i<19->j<19->i≠j->zbF R c i k->zbF R c j k->False
 news:∀i k,i<19->zbF R c i k->w0.heap.size<=k
 old:Below w0.heap.size w0 w
def zyY(R:Nat)(c:zbZ)(J:Nat->Prop)(k:Nat):Prop:=∃i,i<19/\J i/\zbF R c i k
section
variable {w0 w w1:World} {R:Nat} {S F:Value} {q q1:Crs} {c c1:zbZ} {G J:Nat->Prop}
theorem zaq.lt(h:zaq w0 w R S F q c):R<w.heap.size:=(Array.getElem?_eq_some_iff.1 h.blk).1
theorem zaq.part_lt(h:zaq w0 w R S F q c):∀i k,i<19->zbF R c i k->k<w.heap.size:=by
 intro i k hi hk
 match i,hk with
 | 0,hk=>rw[show k=R from hk];exact h.lt
 | 1,hk=>exact(h.done.lt k hk).2
 | 2,hk=>rw[show k=c.B from hk];exact h.beg.elim fun _ h=>h.lt
 | 3,hk=>rw[show k=c.D from hk];exact h.rd.elim fun _ h=>h.lt
 | 4,hk=>rw[show k=c.W from hk];exact h.wr.elim fun _ h=>h.lt
 | d+5,hk =>
   by_cases hd:d<7
   ·exact((h.rrow d hd).lt k ((zcm R c hd k).1 hk)).2
   ·obtain⟨e,rfl⟩:∃e,d=e+7:=⟨d-7,by omega⟩;exact((h.wrow e (by omega)).lt k ((zcC R c e k).1 hk)).2
theorem zaq.keep(h:zaq w0 w R S F q c){i:Nat}(hi:i<19)(hj:¬J i):∀k,zbF R c i k->¬zyY R c J k:=fun k hk ⟨j,hj1,hj2,hj3⟩=>h.apart i j k hi hj1 (fun e=>hj (e ▸hj2)) hk hj3
theorem zaq.blkT(h:zaq w0 w R S F q c)(ht:zac G w w1)(hF:∀k,zbF R c 0 k->¬G k):w1.heap[R]? = some (.cells (zfY S F c) 224 (0,0)):=(ht.block R h.lt (hF R rfl)).trans h.blk
theorem zaq.doneT(h:zaq w0 w R S F q c)(ht:zac G w w1)(hF:∀k,zbF R c 1 k->¬G k):w1.ownsRow w0.heap.size 3 1 c.dv q.done.length (q.done.map (Value.int .i64)):=ht.own h.done fun k hk=>hF k hk
theorem zaq.begT(h:zaq w0 w R S F q c)(ht:zac G w w1)(hF:∀k,zbF R c 2 k->¬G k):∃m,zax w1 c.B (zgV q.began) m:=h.beg.elim fun m h1=>⟨m,h1.turn ht (hF _ rfl)⟩
theorem zaq.rdT(h:zaq w0 w R S F q c)(ht:zac G w w1)(hF:∀k,zbF R c 3 k->¬G k):∃m,zax w1 c.D c.hr m:=h.rd.elim fun m h1=>⟨m,h1.turn ht (hF _ rfl)⟩
theorem zaq.wrT(h:zaq w0 w R S F q c)(ht:zac G w w1)(hF:∀k,zbF R c 4 k->¬G k):∃m,zax w1 c.W c.hw m:=h.wr.elim fun m h1=>⟨m,h1.turn ht (hF _ rfl)⟩
theorem zaq.rrowT(h:zaq w0 w R S F q c)(ht:zac G w w1){d:Nat}(hd:d<7)(hF:∀k,zbF R c (d+5) k->¬G k):w1.ownsRow w0.heap.size 230 3 (c.rv (d:Int)) (q.read (d:Int)).length (flat (q.read (d:Int))):=ht.own (h.rrow d hd) fun k hk=>hF k ((zcm R c hd k).2 hk)
theorem zaq.wrowT(h:zaq w0 w R S F q c)(ht:zac G w w1){d:Nat}(hd:d<7)(hF:∀k,zbF R c (d+12) k->¬G k):w1.ownsRow w0.heap.size 3 1 (c.wv (d:Int)) (q.wrote (d:Int)).length ((q.wrote (d:Int)).map (Value.int .i64)):=ht.own (h.wrow d hd) fun k hk=>hF k ((zcC R c d k).2 hk)
theorem zaq.change(h:zaq w0 w R S F q c)(m:Nat)(ht:zac (zyY R c J) w w1)(hsame:∀i,i<19->i≠m->∀k,zbF R c1 i k->zbF R c i k)(hm:∀k,zbF R c1 m k->zbF R c m k\/w.heap.size<=k)
  (blk:w1.heap[R]? = some (.cells (zfY S F c1) 224 (0,0))) (done:w1.ownsRow w0.heap.size 3 1 c1.dv q1.done.length (q1.done.map (Value.int .i64))) (beg:∃m,zax w1 c1.B (zgV q1.began) m) (rd:∃m,zax w1 c1.D c1.hr m) (wr:∃m,zax w1 c1.W c1.hw m)
  (rrow:∀d:Nat,d<7->w1.ownsRow w0.heap.size 230 3 (c1.rv (d:Int)) (q1.read (d:Int)).length (flat (q1.read (d:Int)))) (wrow:∀d:Nat,d<7->w1.ownsRow w0.heap.size 3 1 (c1.wv (d:Int)) (q1.wrote (d:Int)).length ((q1.wrote (d:Int)).map (Value.int .i64))):zaq w0 w1 R S F q1 c1:=by
 have hp:∀i k,i<19->zbF R c1 i k->zbF R c i k\/(i=m/\w.heap.size<=k):=fun i k hi hk=>by
  by_cases e:i=m
  ·subst e;rcases hm k hk with h1 | h1
   ·exact .inl h1
   ·exact .inr ⟨rfl,h1⟩
  ·exact .inl (hsame i hi e k hk)
 refine⟨blk,done,beg,rd,wr,rrow,wrow,fun i j k hi hj hij h1 h2=>?_,fun i k hi hk=>?_,h.old.trans (ht.below h.old.size fun k hk hf=>?_)⟩
 ·rcases hp i k hi h1 with h3 | ⟨h3,h4⟩
  ·rcases hp j k hj h2 with h5 | ⟨h5,h6⟩
   ·exact h.apart i j k hi hj hij h3 h5
   ·have:=h.part_lt i k hi h3;omega
  ·rcases hp j k hj h2 with h5 | ⟨h5,h6⟩
   ·have:=h.part_lt j k hj h5;omega
   ·exact hij (h3.trans h5.symm)
 ·rcases hp i k hi hk with h3 | ⟨_,h3⟩
  ·exact h.news i k hi h3
  ·exact Nat.le_trans h.old.size h3
 ·obtain⟨i,hi,_,hk2⟩:=hf;have:=h.news i k hi hk2;omega
theorem zaq.below(h:zaq w0 w R S F q c)(hb:Below w.heap.size w w1):zaq w0 w1 R S F q c :=
 have ht:zac (zyY R c fun _=>False) w w1:=zac.of_below hb
 h.change (c1:=c) 0 ht (fun _ _ _ _ hk=>hk) (fun _ hk=>.inl hk) (h.blkT ht (h.keep (by omega) (fun hf=>hf))) (h.doneT ht (h.keep (by omega) (fun hf=>hf))) (h.begT ht (h.keep (by omega) (fun hf=>hf))) (h.rdT ht (h.keep (by omega) (fun hf=>hf))) (h.wrT ht (h.keep (by omega) (fun hf=>hf)))
  (fun d hd=>h.rrowT ht hd (h.keep (by omega) (fun hf=>hf))) fun d hd=>h.wrowT ht hd (h.keep (by omega) (fun hf=>hf))
theorem zaq.alloc(h:zaq w0 w R S F q c)(o:Obj):zaq w0 (w.alloc o) R S F q c:=h.below ((Below.refl _ w).alloc (Nat.le_refl _) o)
end
section
variable {w0 w w1:World} {R:Nat} {S F:Value} {q:Crs} {c:zbZ}
theorem zaq.cell(h:zaq w0 w R S F q c)(k:Nat):w.cell? ⟨R,k,none⟩=(zfY S F c)[k]? := by rw[cell_of_row w R _ _ _ _ h.blk]
theorem zaq.c0(h:zaq w0 w R S F q c):w.cell? ⟨R,0,none⟩=some S:=h.cell 0
theorem zaq.c1(h:zaq w0 w R S F q c):w.cell? ⟨R,1,none⟩=some F:=h.cell 1
theorem zaq.c2(h:zaq w0 w R S F q c):w.cell? ⟨R,2,none⟩=some c.dv:=h.cell 2
theorem zaq.c3(h:zaq w0 w R S F q c):w.cell? ⟨R,3,none⟩=some (.map (some c.B)):=h.cell 3
theorem zaq.c4(h:zaq w0 w R S F q c):w.cell? ⟨R,4,none⟩=some (.map (some c.D)):=h.cell 4
theorem zaq.c5(h:zaq w0 w R S F q c):w.cell? ⟨R,5,none⟩=some (.map (some c.W)):=h.cell 5
theorem zaq.setBeg{m:Nat}{b:Int->Option Nat}(h:zaq w0 w R S F q c)(hp:zax w1 c.B (zgV b) m)(ht:zac (fun k=>k=c.B) w w1):zaq w0 w1 R S F { q with began:=b } c:=by
 have ht2:zac (zyY R c fun j=>j=2) w w1:=ht.mono fun _ _ hk=>⟨2,by omega,rfl,hk⟩
 exact h.change (c1:=c) 2 ht2 (fun _ _ _ _ hk=>hk) (fun _ hk=>.inl hk) (h.blkT ht2 (h.keep (by omega) (by omega))) (h.doneT ht2 (h.keep (by omega) (by omega))) ⟨m,hp⟩ (h.rdT ht2 (h.keep (by omega) (by omega))) (h.wrT ht2 (h.keep (by omega) (by omega)))
  (fun d hd=>h.rrowT ht2 hd (h.keep (by omega) (by omega))) fun d hd=>h.wrowT ht2 hd (h.keep (by omega) (by omega))
theorem zaq.pushDone{v:Value}{t:Int}(h:zaq w0 w R S F q c)(ht:zac (fun k=>c.dv.ownBlock=some k) w w1)(hv:w1.ownsRow w0.heap.size 3 1 v (q.done.length+1) (q.done.map (Value.int .i64)++[.int .i64 t]))(hap:∀g,v.ownBlock=some g->c.dv.ownBlock=some g\/w.heap.size<=g):w1.cell? ⟨R,2,none⟩=some c.dv/\w1.frozen? ⟨R,2,none⟩=false/\zaq w0 (w1.setCell ⟨R,2,none⟩ v) R S F (doneQ q t) { c with dv:=v }:=by
 have hn:¬c.dv.ownBlock=some R:=fun e=>h.apart 0 1 R (by omega) (by omega) (by decide) rfl e;have hb1:w1.heap[R]? = some (.cells (zfY S F c) 224 (0,0)):=(ht.block R h.lt hn).trans h.blk;have ht2:zac (zyY R c fun j=>j=0\/j=1) w (w1.setCell ⟨R,2,none⟩ v):=(ht.mono fun k _ hk=>⟨1,by omega,.inr rfl,hk⟩).setCell (.inl ⟨0,by omega,.inl rfl,rfl⟩) v
 have hR:¬v.ownBlock=some R:=fun e=>by
  rcases hap R e with h1 | h1
  ·exact hn h1
  ·have:=h.lt;omega
 have hset:zac (fun k=>k=R) w1 (w1.setCell ⟨R,2,none⟩ v):=by refine zac.setCell (zac.refl _ w1) ?_ _;exact .inl rfl
 refine⟨by rw[cell_of_row w1 R _ _ _ _ hb1];rfl,by simp[World.frozen?,hb1],h.change (c1:={ c with dv:=v }) 1 ht2 (fun i hi hne k hk=>?_) (fun k hk=>hap k hk) ?_ ?_ (h.begT ht2 (h.keep (by omega) (by omega))) (h.rdT ht2 (h.keep (by omega) (by omega))) (h.wrT ht2 (h.keep (by omega) (by omega)))
  (fun d hd=>h.rrowT ht2 hd (h.keep (by omega) (by omega))) fun d hd=>h.wrowT ht2 hd (h.keep (by omega) (by omega))⟩
 ·match i,hne,hk with
  | 0,_,hk=>exact hk
  | 1,hne,_=>exact absurd rfl hne
  | 2,_,hk=>exact hk
  | 3,_,hk=>exact hk
  | 4,_,hk=>exact hk
  | d+5,_,hk=>exact hk
 ·rw[za9 hb1];rfl
 ·show World.ownsRow _ _ _ _ v (q.done++[t]).length ((q.done++[t]).map _);rw[List.length_append,List.map_append];exact hset.own hv fun g hg e=>hR (e ▸hg)
theorem ztj(c:zbZ)(d:Int)(x:Option Value):({ c with hr:=setF c.hr d x }:zbZ).rv d=x.getD (.slice none 0 0):=by show(setF c.hr d x d).getD _=_;rw[setF_same]
theorem zo4(c:zbZ){d e:Int}(x:Option Value)(hne:e≠d):({ c with hr:=setF c.hr d x }:zbZ).rv e=c.rv e:=by show(setF c.hr d x e).getD _=_;rw[zaa _ _ hne];rfl
theorem zuF(c:zbZ)(d:Int)(x:Option Value):({ c with hw:=setF c.hw d x }:zbZ).wv d=x.getD (.slice none 0 0):=by show(setF c.hw d x d).getD _=_;rw[setF_same]
theorem zo3(c:zbZ){d e:Int}(x:Option Value)(hne:e≠d):({ c with hw:=setF c.hw d x }:zbZ).wv e=c.wv e:=by show(setF c.hw d x e).getD _=_;rw[zaa _ _ hne];rfl
theorem zaq.pushRead{w2:World}{m d:Nat}{v:Value}{x:Op3}(hd:d<7)(hx:x.1=(d:Int))(h:zaq w0 w R S F q c)(ht0:zac (fun k=>(c.rv (d:Int)).ownBlock=some k) w w2)(hp:zax w1 c.D (setF c.hr (d:Int) (some v)) m)(ht:zac (fun k=>k=c.D) w2 w1)
  (hv:w2.ownsRow w0.heap.size 230 3 v ((q.read (d:Int)).length+1) (flat (q.read (d:Int))++flat [x])) (hap:∀k,v.ownBlock=some k->(c.rv (d:Int)).ownBlock=some k\/w.heap.size<=k):zaq w0 w1 R S F (readQ q x) { c with hr:=setF c.hr (d:Int) (some v) }:=by
 have ht2:zac (zyY R c fun j=>j=3\/j=d+5) w w1:=(ht0.mono fun k _ hk=>⟨d+5,by omega,.inr rfl,(zcm R c hd k).2 hk⟩).trans ht fun k _ hk=>⟨3,by omega,.inl rfl,hk⟩
 have hB:∀k,v.ownBlock=some k->k≠c.D:=fun k hk e=>by
  rcases hap k hk with h1 | h1
  ·exact h.apart (d+5) 3 k (by omega) (by omega) (by omega) ((zcm R c hd k).2 h1) e
  ·have:=h.rd.elim fun _ h=>h.lt;omega
 refine h.change (c1:={ c with hr:=setF c.hr (d:Int) (some v) }) (d+5) ht2 (fun i hi hne k hk=>?_) (fun k hk=>?_) (h.blkT ht2 (h.keep (by omega) (by omega))) (h.doneT ht2 (h.keep (by omega) (by omega))) (h.begT ht2 (h.keep (by omega) (by omega))) ⟨m,hp⟩ (h.wrT ht2 (h.keep (by omega) (by omega)))
  (fun e he=>?_) fun d hd=>h.wrowT ht2 hd (h.keep (by omega) (by omega))
 ·match i,hne,hk with
  | 0,_,hk=>exact hk
  | 1,_,hk=>exact hk
  | 2,_,hk=>exact hk
  | 3,_,hk=>exact hk
  | 4,_,hk=>exact hk
  | e+5,hne,hk =>
    by_cases he:e<7
    ·have hk':=(zcm R _ he k).1 hk;rw[zo4 c _ (by omega)]at hk';exact(zcm R c he k).2 hk'
    ·obtain⟨g,rfl⟩:∃g,e=g+7:=⟨e-7,by omega⟩;have hk':=(zcC R _ g k).1 hk;exact(zcC R c g k).2 hk'
 ·have hk':=(zcm R _ hd k).1 hk;rw[ztj]at hk';rcases hap k hk' with h1 | h1
  ·exact .inl ((zcm R c hd k).2 h1)
  ·exact .inr h1
 ·show World.ownsRow w1 _ _ 3 _ (setF q.read x.1 (q.read x.1++[x]) (e:Int)).length (flat (setF q.read x.1 (q.read x.1++[x]) (e:Int)));rw[hx];by_cases e1:e=d
  ·subst e1;rw[ztj,setF_same,List.length_append,zaP];exact ht.own hv fun k hk e2=>hB k hk e2
  ·rw[zo4 c _ (by omega),zaa _ _ (by omega)];exact h.rrowT ht2 he (h.keep (by omega) (by omega))
theorem zaq.pushWrote{w2:World}{m d:Nat}{v:Value}{x:Int}(hd:d<7)(h:zaq w0 w R S F q c)(ht0:zac (fun k=>(c.wv (d:Int)).ownBlock=some k) w w2)(hp:zax w1 c.W (setF c.hw (d:Int) (some v)) m)(ht:zac (fun k=>k=c.W) w2 w1)
  (hv:w2.ownsRow w0.heap.size 3 1 v ((q.wrote (d:Int)).length+1) ((q.wrote (d:Int)).map (Value.int .i64)++[.int .i64 x])) (hap:∀k,v.ownBlock=some k->(c.wv (d:Int)).ownBlock=some k\/w.heap.size<=k):zaq w0 w1 R S F (zjK q (d:Int) x) { c with hw:=setF c.hw (d:Int) (some v) }:=by
 have ht2:zac (zyY R c fun j=>j=4\/j=d+12) w w1:=(ht0.mono fun k _ hk=>⟨d+12,by omega,.inr rfl,(zcC R c d k).2 hk⟩).trans ht fun k _ hk=>⟨4,by omega,.inl rfl,hk⟩
 have hB:∀k,v.ownBlock=some k->k≠c.W:=fun k hk e=>by
  rcases hap k hk with h1 | h1
  ·exact h.apart (d+12) 4 k (by omega) (by omega) (by omega) ((zcC R c d k).2 h1) e
  ·have:=h.wr.elim fun _ h=>h.lt;omega
 refine h.change (c1:={ c with hw:=setF c.hw (d:Int) (some v) }) (d+12) ht2 (fun i hi hne k hk=>?_) (fun k hk=>?_) (h.blkT ht2 (h.keep (by omega) (by omega))) (h.doneT ht2 (h.keep (by omega) (by omega))) (h.begT ht2 (h.keep (by omega) (by omega))) (h.rdT ht2 (h.keep (by omega) (by omega))) ⟨m,hp⟩
  (fun d hd=>h.rrowT ht2 hd (h.keep (by omega) (by omega))) fun e he=>?_
 ·match i,hne,hk with
  | 0,_,hk=>exact hk
  | 1,_,hk=>exact hk
  | 2,_,hk=>exact hk
  | 3,_,hk=>exact hk
  | 4,_,hk=>exact hk
  | e+5,hne,hk =>
    by_cases he:e<7
    ·have hk':=(zcm R _ he k).1 hk;exact(zcm R c he k).2 hk'
    ·obtain⟨g,rfl⟩:∃g,e=g+7:=⟨e-7,by omega⟩;have hk':=(zcC R _ g k).1 hk;rw[zo3 c _ (by omega)]at hk';exact(zcC R c g k).2 hk'
 ·have hk':=(zcC R _ d k).1 hk;rw[zuF]at hk';rcases hap k hk' with h1 | h1
  ·exact .inl ((zcC R c d k).2 h1)
  ·exact .inr h1
 ·show World.ownsRow w1 _ _ 1 _ (setF q.wrote (d:Int) (q.wrote (d:Int)++[x]) (e:Int)).length ((setF q.wrote (d:Int) (q.wrote (d:Int)++[x]) (e:Int)).map _);by_cases e1:e=d
  ·subst e1;rw[zuF,setF_same,List.length_append,List.map_append];exact ht.own hv fun k hk e2=>hB k hk e2
  ·rw[zo3 c _ (by omega),zaa _ _ (by omega)];exact h.wrowT ht2 he (h.keep (by omega) (by omega))
end
theorem zwL(w0 w:World)(hb:Below w0.heap.size w0 w)(S F:Value):zaq w0 ((((w.alloc (.map #[] 0)).alloc (.map #[] 0)).alloc (.map #[] 0)).alloc (.cells #[S,F,.slice none 0 0,.map (some w.heap.size),.map (some (w.heap.size+1)),.map (some (w.heap.size+2))] 224)) (w.heap.size+3) S F zBH ⟨.slice none 0 0,w.heap.size,w.heap.size+1,w.heap.size+2,fun _=>none,fun _=>none⟩:=by
 obtain⟨W1,hW1⟩:∃W,W=w.alloc (.map #[] 0):=⟨_,rfl⟩;obtain⟨W2,hW2⟩:∃W,W=W1.alloc (.map #[] 0):=⟨_,rfl⟩;obtain⟨W3,hW3⟩:∃W,W=W2.alloc (.map #[] 0):=⟨_,rfl⟩;obtain⟨W4,hW4⟩:∃W,W=W3.alloc (.cells #[S,F,.slice none 0 0,.map (some w.heap.size),.map (some (w.heap.size+1)),.map (some (w.heap.size+2))] 224):=⟨_,rfl⟩;have s1:W1.heap.size=w.heap.size+1:=by rw[hW1];simp
 have s2:W2.heap.size=w.heap.size+2:=by rw[hW2];simp[s1]
 have s3:W3.heap.size=w.heap.size+3:=by rw[hW3];simp[s2]
 have t1:zac (fun _=>False) w W1:=by rw[hW1];exact(zac.refl _ w).alloc _
 have t2:zac (fun _=>False) W1 W2:=by rw[hW2];exact(zac.refl _ W1).alloc _
 have t3:zac (fun _=>False) W2 W3:=by rw[hW3];exact(zac.refl _ W2).alloc _
 have t4:zac (fun _=>False) W3 W4:=by rw[hW4];exact(zac.refl _ W3).alloc _
 have m1:zax W1 w.heap.size (fun _=>none) 0:=by rw[hW1];exact zca w
 have m2:zax W2 (w.heap.size+1) (fun _=>none) 0:=by rw[hW2,<-s1];exact zca W1
 have m3:zax W3 (w.heap.size+2) (fun _=>none) 0:=by rw[hW3,<-s2];exact zca W2
 have hs:=hb.size;rw[<-hW1,<-hW2,<-hW3,<-hW4];have t14:zac (fun _=>False) w W4:=((t1.trans t2 fun _ _ hf=>hf).trans t3 fun _ _ hf=>hf).trans t4 fun _ _ hf=>hf;refine⟨?_,World.ownsRow_nil _ _ _ _,⟨0,((m1.turn t2 (fun hf=>hf)).turn t3 (fun hf=>hf)).turn t4 (fun hf=>hf)⟩,⟨0,(m2.turn t3 (fun hf=>hf)).turn t4 (fun hf=>hf)⟩,⟨0,m3.turn t4 (fun hf=>hf)⟩,fun d _=>World.ownsRow_nil _ _ _ _,fun d _=>World.ownsRow_nil _ _ _ _,fun i j k hi hj hij h1 h2=>?_,fun i k hi hk=>?_,hb.trans (t14.below hs fun _ _ hf=>hf)⟩
 ·rw[hW4,<-s3];exact heap_alloc_new W3 _
 ·have key:∀i k,i<19->zbF (w.heap.size+3) ⟨.slice none 0 0,w.heap.size,w.heap.size+1,w.heap.size+2,fun _=>none,fun _=>none⟩ i k->(i=0/\k=w.heap.size+3)\/(i=2/\k=w.heap.size)\/(i=3/\k=w.heap.size+1)\/(i=4/\k=w.heap.size+2):=fun i k hi hk=>by
   match i,hk with
   | 0,hk=>exact .inl ⟨rfl,hk⟩
   | 1,hk=>exact absurd hk (by simp[zbF,Value.ownBlock])
   | 2,hk=>exact .inr (.inl ⟨rfl,hk⟩)
   | 3,hk=>exact .inr (.inr (.inl ⟨rfl,hk⟩))
   | 4,hk=>exact .inr (.inr (.inr ⟨rfl,hk⟩))
   | d+5,hk=>exact absurd hk (by simp[zbF,zbZ.rv,zbZ.wv,Value.ownBlock])
  have a:=key i k hi h1;have b:=key j k hj h2;omega
 ·match i,hk with
  | 0,hk=>rw[show k=_ from hk];omega
  | 1,hk=>exact absurd hk (by simp[zbF,Value.ownBlock])
  | 2,hk=>rw[show k=_ from hk];exact hs
  | 3,hk=>rw[show k=_ from hk];show w0.heap.size<=w.heap.size+1;omega
  | 4,hk=>rw[show k=_ from hk];show w0.heap.size<=w.heap.size+2;omega
  | d+5,hk=>exact absurd hk (by simp[zbF,zbZ.rv,zbZ.wv,Value.ownBlock])
end Go.Proofs.YthlhgiihngcobaaGreatDoor
namespace Go.Proofs.YthlhgiihngcobaaGreatDoor
open Go.RowKit
theorem zae{p:Prop}(h:p):Hid p:=h
theorem zh8{q:Int->Bool}{l:List Int}{k:Nat}{e:Int}(h:l.take (k+1)=l.take k++[e])(h1:(l.take k).any q=false)(h2:q e=false):(l.take (k+1)).any q=false:=by rw[h,List.any_append,h1];simp[h2]
def zb4(l:List Int)(q:Int->Bool)(n:Int):Prop:=(n=-1/\l.any q=false)\/∃k:Nat,n=k/\k<l.length/\q (l.getD k 0)=true/\(l.take k).any q=false
theorem zdV{l:List Int}{k:Nat}(h:k<l.length):l.getD k 0∈l:=by simp[List.getD,h]
theorem zb4.sign{l:List Int}{q:Int->Bool}{n:Int}(h:zb4 l q n):decide (0<=n)=l.any q:=by
 rcases h with⟨rfl,h⟩ | ⟨k,rfl,hk,hq,_⟩
 ·rw[h];rfl
 ·have:l.any q=true:=List.any_eq_true.2 ⟨_,zdV hk,hq⟩;rw[this];simp
theorem zb4.none{l:List Int}{q:Int->Bool}(h:l.any q=false):zb4 l q (-1):=.inl ⟨rfl,h⟩
theorem zb4.some{l:List Int}{q:Int->Bool}{k:Nat}{e:Int}(hk:k<l.length)(he:l.getD k 0=e)(hq:q e=true)(h:(l.take k).any q=false):zb4 l q (k:Int):=.inr ⟨k,rfl,hk,by rw[he];exact hq,h⟩
theorem zqk(l:List Int)(v:Value)(q:Int->Bool)(N:Nat)(C:Array Value)(w:World)(hcall:∀(args:Array Value) (W:World),(callFunc N args).run Tryz.prog W=.ok (.enter N args) W)(hI:zaf w v l)(hlen:l.length<=140737488351)
  (hp:∀W:World,Below w.heap.size w W->∀e∈l,Calls Tryz.prog N (#[.int .i64 e]++C) W fun r w'=>r=.returned (.bool (q e))/\Below W.heap.size W w') :
  Calls Tryz.prog 117 #[v,.func (.func N) #[] C] w fun r w'=>∃n:Int,r=.returned (.int .i64 n)/\zb4 l q n/\Below w.heap.size w w':=by
 have HI2:Hid (zaf w v l):=hI;obtain⟨ad,b,off,cap,rfl,ha,_,hbB,hops⟩:=hI
 have HO:Hid (∀W,Below w.heap.size w W->∀k,k<l.length->ad=some ⟨b,off,none⟩/\W.cell? ⟨b,off+k,none⟩=some (.int .i64 (l.getD k 0))):=fun W hW k hk=>⟨ha (by omega),by
  have hb:b<w.heap.size:=by
   rcases hbB with h | h
   ·exact h
   ·subst h;simp at hk
  exact(hW.cell (p:=⟨b,off+k,none⟩) hb).trans (hops k hk)⟩
 have HP:Hid (∀W:World,Below w.heap.size w W->∀e∈l,Calls Tryz.prog N (#[.int .i64 e]++C) W fun r w'=>r=.returned (.bool (q e))/\Below W.heap.size W w'):=hp;clear ha hbB hops hp HI2;go_enter Tryz.func117,Tryz.ntmps117;go_wp2
 go_loopw [8] (fun v8 wr=>∃k:Nat,k<=l.length/\v8=.int .i64 k/\(l.take k).any q=false/\Below w.heap.size w wr) (fun v8 _=>l.length-(intOf v8).toNat)
 case atStart=>exact⟨0,Nat.zero_le _,rfl,by simp,Below.refl _ _⟩
 case round =>
  obtain⟨k,hk,rfl,hno,hbel⟩:=hrel;have HNO:Hid ((l.take k).any q=false):=hno;clear hno;have hsz:=hbel.size;by_cases hlt:k<l.length
  ·have hlt':(k:Int)<(l.length:Int):=by omega
   obtain⟨rfl,c0⟩:=HO.out wr hbel k hlt;obtain⟨t,ho⟩:∃o:Int,l.getD k 0=o:=⟨_,rfl⟩;rw[ho]at c0;have hmem:t∈l:=by rw[<-ho];exact zdV hlt
   have HT:Hid (l.take (k+1)=l.take k++[t]):=by show l.take (k+1)=l.take k++[t];rw[List.take_succ_eq_append_getElem hlt,<-ho];simp[List.getD,List.getElem?_eq_getElem hlt]
   have HM:Hid (t∈l):=hmem;have HG:Hid (l.getD k 0=t):=ho;clear ho HO hmem;cases hq:q t with
   | false =>
     have HQ:Hid (q t=false):=hq;have HC:Hid (Calls Tryz.prog N (#[.int .i64 t]++C) wr fun r w'=>r=.returned (.bool false)/\Below wr.heap.size wr w'):=hq ▸HP.out wr hbel _ HM.out;clear hq;go_wp2_with fail;refine HC.out.mono ?_;rintro e w1 ⟨rfl,hb1⟩;go_wp2_with fail;go_roundw
     case rel=>exact⟨k+1,by omega,by go_num,zh8 HT.out HNO.out HQ.out,hbel.trans (hb1.mono hsz)⟩
     case measure=>simp[intOf];omega
   | true =>have HQ:Hid (q t=true):=hq;have HC:Hid (Calls Tryz.prog N (#[.int .i64 t]++C) wr fun r w'=>r=.returned (.bool true)/\Below wr.heap.size wr w'):=hq ▸HP.out wr hbel _ HM.out;clear hq;go_wp2_with fail;refine HC.out.mono ?_;rintro e w1 ⟨rfl,hb1⟩;go_wp2_with fail;go_ret;exact⟨_,rfl,zb4.some hlt HG.out HQ.out HNO.out,hbel.trans (hb1.mono hsz)⟩
  ·have hlt':¬(k:Int)<(l.length:Int):=by omega
   go_wp2_with fail;go_ret;refine⟨_,rfl,zb4.none ?_,hbel⟩;have h0:=HNO.out;rw[List.take_of_length_le (by omega)]at h0;exact h0
theorem zdB(l:List Int)(v:Value)(q:Int->Bool)(N:Nat)(C:Array Value)(w:World)(hcall:∀(args:Array Value) (W:World),(callFunc N args).run Tryz.prog W=.ok (.enter N args) W)(hI:zaf w v l)(hlen:l.length<=140737488351)
  (hp:∀W:World,Below w.heap.size w W->∀e∈l,Calls Tryz.prog N (#[.int .i64 e]++C) W fun r w'=>r=.returned (.bool (q e))/\Below W.heap.size W w') :
  Calls Tryz.prog 150 #[v,.func (.func N) #[] C] w fun r w'=>r=.returned (.bool (l.any q))/\Below w.heap.size w w':=by
 have HC:Hid (Calls Tryz.prog 117 #[v,.func (.func N) #[] C] w fun r w'=>∃n:Int,r=.returned (.int .i64 n)/\zb4 l q n/\Below w.heap.size w w'):=zqk l v q N C w hcall hI hlen hp;clear hp hI hcall;go_enter Tryz.func150,Tryz.ntmps150;go_wp2_with (go_at_call 117;refine HC.out.mono ?_;rintro e w1 ⟨n,rfl,hn,hb1⟩;have hn1:=hn.sign;clear hn);all_goals go_ret
 all_goals exact⟨ret_bool (by simp_all),hb1⟩
def seV(x:Op3):Value:=.agg #[.int .i64 x.1,.int .i64 x.2.1,.int .i64 x.2.2]
theorem znE{q:Op3->Bool}{l:List Op3}{k:Nat}{e:Op3}(h:l.take (k+1)=l.take k++[e])(h1:(l.take k).any q=false)(h2:q e=false):(l.take (k+1)).any q=false:=by rw[h,List.any_append,h1];simp[h2]
def zc8(l:List Op3)(q:Op3->Bool)(n:Int):Prop:=(n=-1/\l.any q=false)\/∃k:Nat,n=k/\k<l.length/\q (opAt l k)=true/\(l.take k).any q=false
theorem zc8.sign{l:List Op3}{q:Op3->Bool}{n:Int}(h:zc8 l q n):decide (0<=n)=l.any q:=by
 rcases h with⟨rfl,h⟩ | ⟨k,rfl,hk,hq,_⟩
 ·rw[h];rfl
 ·have:l.any q=true:=List.any_eq_true.2 ⟨_,zal hk,hq⟩;rw[this];simp
theorem zc8.none{l:List Op3}{q:Op3->Bool}(h:l.any q=false):zc8 l q (-1):=.inl ⟨rfl,h⟩
theorem zc8.some{l:List Op3}{q:Op3->Bool}{k:Nat}{e:Op3}(hk:k<l.length)(he:opAt l k=e)(hq:q e=true)(h:(l.take k).any q=false):zc8 l q (k:Int):=.inr ⟨k,rfl,hk,by rw[he];exact hq,h⟩
theorem zqq(l:List Op3)(v:Value)(q:Op3->Bool)(N:Nat)(C:Array Value)(w:World)(hcall:∀(args:Array Value) (W:World),(callFunc N args).run Tryz.prog W=.ok (.enter N args) W)(hI:zai w v l)(hlen:l.length<=140737488351)
  (hp:∀W:World,Below w.heap.size w W->∀e∈l,Calls Tryz.prog N (#[seV e]++C) W fun r w'=>r=.returned (.bool (q e))/\Below W.heap.size W w') :
  Calls Tryz.prog 197 #[v,.func (.func N) #[] C] w fun r w'=>∃n:Int,r=.returned (.int .i64 n)/\zc8 l q n/\Below w.heap.size w w':=by
 obtain⟨ad,b,off,cap,rfl,ha,_,hbB,hops⟩:=hI;have HO:Hid (∀W,Below w.heap.size w W->∀k,k<l.length->ad=some ⟨b,off,none⟩/\W.cell? ⟨b,off+k*3,none⟩=some (.int .i64 (opAt l k).1)/\W.cell? ⟨b,off+k*3+1,none⟩=some (.int .i64 (opAt l k).2.1)/\W.cell? ⟨b,off+k*3+2,none⟩=some (.int .i64 (opAt l k).2.2)):=fun W hW k hk=>⟨ha (by omega),(hops.below hW hbB) k hk⟩;have HP:Hid (∀W:World,Below w.heap.size w W->∀e∈l,Calls Tryz.prog N (#[seV e]++C) W fun r w'=>r=.returned (.bool (q e))/\Below W.heap.size W w'):=hp;clear ha hbB hops hp;go_enter Tryz.func197,Tryz.ntmps197;go_wp2
 go_loopw [8] (fun v8 wr=>∃k:Nat,k<=l.length/\v8=.int .i64 k/\(l.take k).any q=false/\Below w.heap.size w wr) (fun v8 _=>l.length-(intOf v8).toNat)
 case atStart=>exact⟨0,Nat.zero_le _,rfl,by simp,Below.refl _ _⟩
 case round =>
  obtain⟨k,hk,rfl,hno,hbel⟩:=hrel;have HNO:Hid ((l.take k).any q=false):=hno;clear hno;have hsz:=hbel.size;by_cases hlt:k<l.length
  ·have hlt':(k:Int)<(l.length:Int):=by omega
   obtain⟨rfl,c0,c1,c2⟩:=HO.out wr hbel k hlt;obtain⟨⟨t,a,i⟩,ho⟩:∃o:Op3,opAt l k=o:=⟨_,rfl⟩;rw[ho]at c0 c1 c2;have hmem:(t,a,i)∈l:=by rw[<-ho];exact zal hlt
   have HT:Hid (l.take (k+1)=l.take k++[(t,a,i)]):=by show l.take (k+1)=l.take k++[(t,a,i)];rw[List.take_succ_eq_append_getElem hlt,<-ho];simp[opAt,List.getD,List.getElem?_eq_getElem hlt]
   have HM:Hid ((t,a,i)∈l):=hmem;have HG:Hid (opAt l k=(t,a,i)):=ho;clear ho HO hmem;simp only at c0 c1 c2;cases hq:q (t,a,i)with
   | false =>
     have HQ:Hid (q (t,a,i)=false):=hq;have HC:Hid (Calls Tryz.prog N (#[.agg #[.int .i64 t,.int .i64 a,.int .i64 i]]++C) wr fun r w'=>r=.returned (.bool false)/\Below wr.heap.size wr w'):=hq ▸HP.out wr hbel _ HM.out;clear hq;go_wp2_with fail;refine HC.out.mono ?_;rintro e w1 ⟨rfl,hb1⟩;go_wp2_with fail;go_roundw
     case rel=>exact⟨k+1,by omega,by go_num,znE HT.out HNO.out HQ.out,hbel.trans (hb1.mono hsz)⟩
     case measure=>simp[intOf];omega
   | true =>have HQ:Hid (q (t,a,i)=true):=hq;have HC:Hid (Calls Tryz.prog N (#[.agg #[.int .i64 t,.int .i64 a,.int .i64 i]]++C) wr fun r w'=>r=.returned (.bool true)/\Below wr.heap.size wr w'):=hq ▸HP.out wr hbel _ HM.out;clear hq;go_wp2_with fail;refine HC.out.mono ?_;rintro e w1 ⟨rfl,hb1⟩;go_wp2_with fail;go_ret;exact⟨_,rfl,zc8.some hlt HG.out HQ.out HNO.out,hbel.trans (hb1.mono hsz)⟩
  ·have hlt':¬(k:Int)<(l.length:Int):=by omega
   go_wp2_with fail;go_ret;refine⟨_,rfl,zc8.none ?_,hbel⟩;have h0:=HNO.out;rw[List.take_of_length_le (by omega)]at h0;exact h0
theorem zdy(l:List Op3)(v:Value)(q:Op3->Bool)(N:Nat)(C:Array Value)(w:World)(hcall:∀(args:Array Value) (W:World),(callFunc N args).run Tryz.prog W=.ok (.enter N args) W)(hI:zai w v l)(hlen:l.length<=140737488351)
  (hp:∀W:World,Below w.heap.size w W->∀e∈l,Calls Tryz.prog N (#[seV e]++C) W fun r w'=>r=.returned (.bool (q e))/\Below W.heap.size W w') :
  Calls Tryz.prog 153 #[v,.func (.func N) #[] C] w fun r w'=>r=.returned (.bool (l.any q))/\Below w.heap.size w w':=by
 have HC:Hid (Calls Tryz.prog 197 #[v,.func (.func N) #[] C] w fun r w'=>∃n:Int,r=.returned (.int .i64 n)/\zc8 l q n/\Below w.heap.size w w'):=zqq l v q N C w hcall hI hlen hp;clear hp hI hcall;go_enter Tryz.func153,Tryz.ntmps153;go_wp2_with (go_at_call 197;refine HC.out.mono ?_;rintro e w1 ⟨n,rfl,hn,hb1⟩;have hn1:=hn.sign;clear hn);all_goals go_ret
 all_goals exact⟨ret_bool (by simp_all),hb1⟩
theorem zrZ(l:List Int)(v:Value)(n:Int)(w:World)(hI:zaf w v l)(hl:l.length<=1000):Calls Tryz.prog 116 #[v,.int .i64 n] w fun e w'=>∃m:Int,e=.returned (.int .i64 m)/\decide (0<=m)=inB l n/\w'=w:=by
 obtain⟨ad,b,off,cap,rfl,ha,-,-,hc⟩:=hI;have HE:Hid (∀k,k<l.length->ad=some ⟨b,off,none⟩/\w.cell? ⟨b,off+k,none⟩=some (.int .i64 (l.getD k 0))):=fun k hk=>⟨ha (by omega),hc k hk⟩;clear ha hc;go_enter Tryz.func116,Tryz.ntmps116;go_wp2_with fail
 go_loopw [8] (fun v8 wr=>∃k:Nat,k<=l.length/\v8=.int .i64 k/\inB (l.take k) n=false/\wr=w) (fun v8 _=>l.length-(intOf v8).toNat)
 case atStart=>exact⟨0,Nat.zero_le _,rfl,rfl,rfl⟩
 case round =>
  obtain⟨k,hk,rfl,hno,hwr⟩:=hrel;rw[hwr];clear hwr;have HNO:Hid (inB (l.take k) n=false):=hno;clear hno;by_cases hlt:k<l.length
  ·have hlt':(k:Int)<(l.length:Int):=by omega
   obtain⟨rfl,c0⟩:=HE.out k hlt;obtain⟨t,ho⟩:∃t,l.getD k 0=t:=⟨_,rfl⟩;rw[ho]at c0;have HM:Hid (t∈l):=by show t∈l;rw[<-ho];simp[List.getD,List.getElem?_eq_getElem hlt]
   have HT:Hid (l.take (k+1)=l.take k++[t]):=by show l.take (k+1)=l.take k++[t];rw[List.take_succ_eq_append_getElem hlt,<-ho];simp[List.getD,List.getElem?_eq_getElem hlt]
   clear ho;cases hq:(n == t)with
   | false =>
     have HN:Hid (inB (l.take (k+1)) n=false):=by
      show inB (l.take (k+1)) n=false;have h1:=ziH.1 HNO.out;refine ziH.2 fun h=>?_;rw[HT.out,List.mem_append,List.mem_singleton]at h;rcases h with h | h
      ·exact h1 h
      ·rw[h]at hq;simp at hq
     go_wp2_with fail;go_roundw
     case rel=>exact⟨k+1,by omega,by go_num,HN.out,trivial⟩
     case measure=>simp[intOf];omega
   | true =>
     have HR:Hid (inB l n=true):=by
      show inB l n=true;have:n=t:=by simpa using hq
      rw[this];exact zaV.2 HM.out
     go_wp2_with fail;go_ret;exact⟨_,rfl,by rw[HR.out];simp,rfl⟩
  ·have hlt':¬(k:Int)<(l.length:Int):=by omega
   have HR:Hid (inB l n=false):=by show inB l n=false;have h0:=HNO.out;rw[List.take_of_length_le (by omega)]at h0;exact h0
   go_wp2_with fail;go_ret;exact⟨_,rfl,by rw[HR.out];rfl,rfl⟩
theorem zfJ(l:List Int)(v:Value)(n:Int)(w:World)(hI:zaf w v l)(hl:l.length<=1000):Calls Tryz.prog 48 #[v,.int .i64 n] w fun e w'=>e=.returned (.bool (inB l n))/\w'=w:=by
 have HC:=zae (zrZ l v n w hI hl);clear hI;go_enter Tryz.func48,Tryz.ntmps48;go_wp2_with (go_at_call 116;refine HC.out.mono ?_;rintro e w1 ⟨m,rfl,hn1,hw1⟩;rw[hw1];clear hw1);all_goals go_ret
 all_goals exact⟨ret_bool (by simp_all),rfl⟩
theorem zhK:(Tryz.prog.info? 230).map (fun i=>(i.zero,i.size,i.bytes))=some (some (.agg #[.int .i64 0,.int .i64 0,.int .i64 0]),3,24):=by kernel_rfl
theorem zp5(l:List Op3)(v:Value)(w:World)(hI:zai w v l)(hl:l.length<=1000):Calls Tryz.prog 196 #[v] w fun e w'=>∃v',e=.returned v'/\w'.ownsRow w.heap.size 230 3 v' l.length (flat l)/\Below w.heap.size w w':=by
 obtain⟨ad,b,off,cap,rfl,ha,hn,-,hc⟩:=hI;obtain⟨i0,hi,hz0,hs0,hy0⟩:=info_parts zhK;have HI:Hid (Tryz.prog.info? 230=some i0/\i0.zero=some (.agg #[.int .i64 0,.int .i64 0,.int .i64 0])/\i0.size=3/\i0.bytes=24):=⟨hi,hz0,hs0,hy0⟩;clear hi hz0 hs0 hy0;cases ad with
 | none =>obtain⟨h0,rfl⟩:=hn rfl;have e0:l=[]:=List.length_eq_zero_iff.1 h0;subst e0;clear ha hn hc;have hq:∀w,(binOp .eql 75 (.slice none 0 0) (.slice none 0 0)).run Tryz.prog w=.ok (.bool true) w:=fun w=>Lib.run_eql_slice_nil w _ _ _ _ _ _ _ Tryz.underlying75;go_enter Tryz.func196,Tryz.ntmps196;go_wp2;go_ret;exact⟨_,rfl,World.ownsRow_nil _ _ _ _,Below.refl _ _⟩
 | some a =>
   by_cases h0:l=[]
   ·subst h0;clear ha hn hc;have hq:∀w,(binOp .eql 75 (.slice (some a) 0 cap) (.slice none 0 0)).run Tryz.prog w=.ok (.bool false) w:=fun w=>Lib.run_eql_slice_nil w _ _ _ _ _ _ _ Tryz.underlying75;go_enter Tryz.func196,Tryz.ntmps196;go_wp2_with (at_builtin;refine wpList_append_own_none rfl (.tmp 5) (.tmp 6) 75 rfl w.heap.size 230 i0 3 Tryz.underlying75 HI.out.1 (.slice (some ⟨w.heap.size,0,none⟩) 0 0) 0 [] rfl (World.ownsRow_made w #[] 0 (Nat.le_refl _) (Nat.zero_le _) rfl) rfl ?_);go_ret;exact⟨_,rfl,World.ownsRow_made w #[] 0 (Nat.le_refl _) (Nat.zero_le _) rfl,(Below.refl _ w).alloc (Nat.le_refl _) _⟩
   ·have hq:∀w,(binOp .eql 75 (.slice (some a) l.length cap) (.slice none 0 0)).run Tryz.prog w=.ok (.bool false) w:=fun w=>Lib.run_eql_slice_nil w _ _ _ _ _ _ _ Tryz.underlying75;have ha':=ha (List.length_pos_iff.2 h0);injection ha' with ha';subst ha';have HS:Hid (∀j u,(flat l)[j]? = some u->w.cell? ⟨b,off+j,none⟩=some u):=hc.flat;clear ha hn hc;go_enter Tryz.func196,Tryz.ntmps196;go_wp2_with (at_builtin;refine wpList_append_own _ rfl (.tmp 5) (.tmp 6) 75 rfl w.heap.size 230 i0 (.agg #[.int .i64 0,.int .i64 0,.int .i64 0]) 3 24 Tryz.underlying75 HI.out.1 HI.out.2.1 HI.out.2.2.1 HI.out.2.2.2 rfl (by decide) (.slice (some ⟨w.heap.size,0,none⟩) 0 0) 0 [] rfl (World.ownsRow_made w #[] 0 (Nat.le_refl _) (Nat.zero_le _) rfl) ⟨b,off,none⟩ l.length cap (flat l) rfl (zbr l) (fun j u hj=>by rw[Addr.add_lit];have h1:=HS.out j u hj;rw[World.cell?_alloc_lt _ _ _ (World.block_lt_of_cell? w _ h1)];exact h1) (zba l) (by unfold maxLen;omega) (by omega) (by simp) ?_;intro v1 w1 hown1 hgr1 hnil1);go_ret;exact⟨_,rfl,by simpa using hown1,((Below.refl _ w).alloc (Nat.le_refl _) _).grown hgr1 (by simp) (by intro k hk;simp[Value.ownBlock]at hk;omega)⟩
end Go.Proofs.YthlhgiihngcobaaGreatDoor
namespace Go.Proofs.YthlhgiihngcobaaGreatDoor
open Go.RowKit
theorem zdk(w:World):(zeroValue 24).run Tryz.prog w=.ok (.slice none 0 0) w:=by kernel_rfl
theorem zbs(w:World):(zeroValue 75).run Tryz.prog w=.ok (.slice none 0 0) w:=by kernel_rfl
theorem zem(w:World):(zeroValue 3).run Tryz.prog w=.ok (.int .i64 0) w:=by kernel_rfl
section
variable {w0 w:World} {R:Nat} {S F:Value} {q:Crs} {c:zbZ}
theorem zaq.wrotes(h:zaq w0 w R S F q c){t:Int}(h1:1<=t)(h6:t<=6):∃ad cap,c.wv t=.slice ad (q.wrote t).length cap/\zaf w (.slice ad (q.wrote t).length cap) (q.wrote t):=by obtain⟨d,rfl⟩:∃d:Nat,t=d:=⟨t.toNat,by omega⟩;have hr:=h.wrow d (by omega);obtain⟨ad,cap,e,-⟩:=zad hr;exact⟨ad,cap,e,by rw[<-e];exact zap hr rfl⟩
theorem zaq.reads(h:zaq w0 w R S F q c){t:Int}(h1:1<=t)(h6:t<=6):∃ad cap,c.rv t=.slice ad (q.read t).length cap/\zai w (.slice ad (q.read t).length cap) (q.read t):=by obtain⟨d,rfl⟩:∃d:Nat,t=d:=⟨t.toNat,by omega⟩;have hr:=h.rrow d (by omega);obtain⟨ad,cap,e,-⟩:=zad hr;exact⟨ad,cap,e,by rw[<-e];exact zbH hr rfl⟩
end
theorem zde{w0 w:World}{R:Nat}{S F:Value}{q:Crs}{c:zbZ}(h:zaq w0 w R S F q c){t:Int}(h1:1<=t)(h6:t<=6)(item:Int)(hl:(q.wrote t).length<=1000):Calls Tryz.prog 155 #[.pointer (some ⟨R,0,none⟩),.int .i64 t,.int .i64 item] w fun e w'=>e=.returned (.bool (inB (q.wrote t) item))/\w'=w:=by have c5:=h.c5;obtain⟨m,hm⟩:=h.wr;have HM:=zae hm;obtain⟨ad,cap,hv,hI⟩:=h.wrotes h1 h6;have HV:Hid ((c.hw t).getD (.slice none 0 0)=.slice ad (q.wrote t).length cap):=hv;have HC:=zae (zfJ (q.wrote t) _ item w hI hl);have hwf:=zaX h1 h6;obtain⟨n,hn⟩:∃n,(q.wrote t).length=n:=⟨_,rfl⟩;rw[hn]at HV HC;clear h hm hv hI h1 h6 hl hn;go_enter Tryz.func155,Tryz.ntmps155;go_wp2_with (first | (at_lookup;refine zbO _ rfl (.tmp 10) (.tmp 11) 222 false rfl 24 Tryz.underlying222 (.slice none 0 0) (zdk _) c.W m c.hw rfl HM.out t rfl hwf (.slice ad n cap) _ HV.out rfl ?_) | (go_at_call 48;refine HC.out.mono ?_;rintro e w1 ⟨rfl,hw1⟩;rw[hw1];clear hw1));go_ret;exact⟨rfl,rfl⟩
theorem zjZ{w0 w:World}{R:Nat}{S F:Value}{q:Crs}{c:zbZ}(h:zaq w0 w R S F q c){t:Int}(h1:1<=t)(h6:t<=6)(hl:(q.read t).length<=1000):Calls Tryz.prog 149 #[.pointer (some ⟨R,0,none⟩),.int .i64 t] w fun e w'=>∃v',e=.returned v'/\w'.ownsRow w.heap.size 230 3 v' (q.read t).length (flat (q.read t))/\Below w.heap.size w w':=by have c4:=h.c4;obtain⟨m,hm⟩:=h.rd;have HM:=zae hm;obtain⟨ad,cap,hv,hI⟩:=h.reads h1 h6;have HV:Hid ((c.hr t).getD (.slice none 0 0)=.slice ad (q.read t).length cap):=hv;have HC:=zae (zp5 (q.read t) _ w hI hl);have hwf:=zaX h1 h6;obtain⟨n,hn⟩:∃n,(q.read t).length=n:=⟨_,rfl⟩;rw[hn]at HV HC;have HN:=zae hn;clear h hm hv hI h1 h6 hl hn;go_enter Tryz.func149,Tryz.ntmps149;go_wp2_with (first | (at_lookup;refine zbO _ rfl (.tmp 8) (.tmp 9) 221 false rfl 75 Tryz.underlying221 (.slice none 0 0) (zbs _) c.D m c.hr rfl HM.out t rfl hwf (.slice ad n cap) _ HV.out rfl ?_) | (go_at_call 196;refine HC.out.mono ?_;rintro e w1 ⟨v1,rfl,ho1,hb1⟩));go_ret;exact⟨v1,rfl,by rw[HN.out];exact ho1,hb1⟩
theorem znt{w0 w:World}{R:Nat}{S F:Value}{q:Crs}{c:zbZ}(h:zaq w0 w R S F q c){t:Int}(h1:1<=t)(h6:t<=6)(hl:(q.wrote t).length<=1000):Calls Tryz.prog 199 #[.pointer (some ⟨R,0,none⟩),.int .i64 t] w fun e w'=>∃v',e=.returned v'/\w'.ownsRow w.heap.size 3 1 v' (q.wrote t).length ((q.wrote t).map (Value.int .i64))/\Below w.heap.size w w':=by have c5:=h.c5;obtain⟨m,hm⟩:=h.wr;have HM:=zae hm;obtain⟨ad,cap,hv,hI⟩:=h.wrotes h1 h6;have HV:Hid ((c.hw t).getD (.slice none 0 0)=.slice ad (q.wrote t).length cap):=hv;have HC:=zae (clone_ints (q.wrote t) _ w hI hl);have hwf:=zaX h1 h6;obtain⟨n,hn⟩:∃n,(q.wrote t).length=n:=⟨_,rfl⟩;rw[hn]at HV HC;have HN:=zae hn;clear h hm hv hI h1 h6 hl hn;go_enter Tryz.func199,Tryz.ntmps199;go_wp2_with (first | (at_lookup;refine zbO _ rfl (.tmp 8) (.tmp 9) 222 false rfl 24 Tryz.underlying222 (.slice none 0 0) (zdk _) c.W m c.hw rfl HM.out t rfl hwf (.slice ad n cap) _ HV.out rfl ?_) | (go_at_call 79;refine HC.out.mono ?_;rintro e w1 ⟨v1,rfl,ho1,hb1⟩));go_ret;exact⟨v1,rfl,by rw[HN.out];exact ho1,hb1⟩
theorem zpI{w0 w:World}{R:Nat}{S F:Value}{q:Crs}{c:zbZ}(h:zaq w0 w R S F q c)(hl:q.done.length<=1000):Calls Tryz.prog 169 #[.pointer (some ⟨R,0,none⟩)] w fun e w'=>∃v',e=.returned v'/\w'.ownsRow w.heap.size 3 1 v' q.done.length (q.done.map (Value.int .i64))/\Below w.heap.size w w':=by have c2:=h.c2;obtain⟨ad,cap,e1,-⟩:=zad h.done;have hI:=zap h.done rfl;rw[e1]at c2 hI;have HC:=zae (clone_ints q.done _ w hI hl);obtain⟨n,hn⟩:∃n,q.done.length=n:=⟨_,rfl⟩;rw[hn]at c2 HC;have HN:=zae hn;clear h hl e1 hI hn;go_enter Tryz.func169,Tryz.ntmps169;go_wp2_with (go_at_call 79;refine HC.out.mono ?_;rintro e w1 ⟨v1,rfl,ho1,hb1⟩);go_ret;exact⟨v1,rfl,by rw[HN.out];exact ho1,hb1⟩
theorem zfO(W:World):(sizeOf (Tryz.prog.elem 24)).run Tryz.prog W=.ok 1 W:=by kernel_rfl
theorem zch:Tryz.prog.underlying 24=some (.slice (Tryz.prog.elem 24)):=by kernel_rfl
theorem zxs{w:World}{base e:Nat}{v:Value}{l:List Int}(h:w.ownsRow base e 1 v l.length (l.map (Value.int .i64))){n:Nat}(hn:n<=l.length):∃ad cap,(∀W,(Instr.sliceAt 24 v (some (.int .i64 (n:Int))) none none).run Tryz.prog W=.ok (.slice ad (l.length-n) cap) W)/\zaf w (.slice ad (l.length-n) cap) (l.drop n):=by
 have hI:=zap h rfl;obtain⟨_,⟨hv,hd⟩ | ⟨g,cap,cur,hv,hb,hg,hnc,hm,hsz,htk⟩⟩:=h
 ·have h0:l=[]:=List.length_eq_zero_iff.1 hd;subst h0;have hn0:n=0:=by simpa using hn
  subst hn0;refine⟨none,0,fun W=>?_,za5 w⟩;rw[hv,run_sliceAt_slice W _ _ _ _ _ zch,run_slice_l W _ _ _ _ zch _ _ (by omega) (by simp),zfO];rfl
 ·refine⟨if cap=n then some ⟨g,0,none⟩else some ⟨g,n,none⟩,cap-n,fun W=>?_,?_⟩
  ·rw[hv,run_sliceAt_slice W _ _ _ _ _ zch,run_slice_l W _ _ _ _ zch _ _ (by omega) (by omega),zfO];simp[Result.andThen,sliced,Addr.add_lit]
  ·obtain⟨ad,b,off,cap',e1,ha,hz,hbB,hc⟩:=hI;rw[hv]at e1;injection e1 with e2 e3 e4;refine⟨_,b,off+n,_,by rw[List.length_drop],fun hp=>?_,fun hno=>(by split at hno <;> cases hno),?_,fun k hk=>?_⟩
   ·rw[List.length_drop]at hp;have h2:=ha (by omega);rw[<-e2]at h2;injection h2 with h2;injection h2 with h2 h3;rw[if_neg (by omega),<-h2,<-h3];simp
   ·rcases hbB with h5 | h5
    ·exact .inl h5
    ·exact .inr (by rw[h5];simp)
   ·rw[List.length_drop]at hk;rw[Nat.add_assoc,hc (n+k) (by omega)];simp[List.getD]
theorem zlL{w:World}{base e:Nat}{v:Value}{l:List Int}(h:w.ownsRow base e 1 v l.length (l.map (Value.int .i64))){n:Nat}(hn:n<=l.length):∃ad cap,(∀W,(Instr.sliceAt 24 v none (some (.int .i64 (n:Int))) none).run Tryz.prog W=.ok (.slice ad n cap) W)/\zaf w (.slice ad n cap) (l.take n):=by
 have hI:=zap h rfl;have hlt:(l.take n).length=n:=by rw[List.length_take];omega
 obtain⟨_,⟨hv,hd⟩ | ⟨g,cap,cur,hv,hb,hg,hnc,hm,hsz,htk⟩⟩:=h
 ·have h0:l=[]:=List.length_eq_zero_iff.1 hd;subst h0;have hn0:n=0:=by simpa using hn
  subst hn0;refine⟨none,0,fun W=>?_,za5 w⟩;rw[hv,run_sliceAt_slice W _ _ _ _ _ zch,run_slice_h W _ _ _ _ zch _ _ (by omega) (by simp),zfO];rfl
 ·refine⟨some ⟨g,0,none⟩,cap,fun W=>?_,?_⟩
  ·rw[hv,run_sliceAt_slice W _ _ _ _ _ zch,run_slice_h W _ _ _ _ zch _ _ (by omega) (by omega),zfO];simp[Result.andThen,sliced,Addr.add_lit]
  ·obtain⟨ad,b,off,cap',e1,ha,hz,hbB,hc⟩:=hI;rw[hv]at e1;injection e1 with e2 e3 e4;refine⟨_,b,off,_,by rw[hlt],fun hp=>?_,fun hno=>(by cases hno),?_,fun k hk=>?_⟩
   ·rw[hlt]at hp;have h2:=ha (by omega);rw[<-e2]at h2;exact h2
   ·rcases hbB with h5 | h5
    ·exact .inl h5
    ·exact .inr (by rw[h5];simp)
   ·rw[hlt]at hk;rw[hc k (by omega)];simp[List.getD,hk]
theorem zmD{w0 w:World}{R:Nat}{S F:Value}{q:Crs}{c:zbZ}(h:zaq w0 w R S F q c){t:Int}(h1:1<=t)(h6:t<=6){n:Nat}(hn:q.began t=some n)(hnl:n<=q.done.length)(hl:q.done.length<=1000):Calls Tryz.prog 151 #[.pointer (some ⟨R,0,none⟩),.int .i64 t] w fun e w'=>∃v',e=.returned v'/\zaf w' v' (q.done.drop n)/\Below w.heap.size w w':=by
 have c2:=h.c2;have c3:=h.c3;obtain⟨m,hm⟩:=h.beg;have hwf:=zaX h1 h6;obtain⟨ad1,cap1,e1,-⟩:=zad h.done;have hrow:=h.done;rw[e1]at hrow c2;obtain⟨ad2,cap2,hsl,hI⟩:=zxs hrow hnl;have hg:(zgV q.began t).getD (.int .i64 0)=.int .i64 (n:Int):=by unfold zgV;rw[hn];rfl
 have hlk0:(Instr.lookup 148 (.map (some c.B)) (.int .i64 t) false).run Tryz.prog w.drew=.ok (.int .i64 (n:Int)) w.drew:=by have:=(zax.drew hm).look false Tryz.underlying148 (zem _) hwf;rw[hg]at this;exact this
 obtain⟨M,hM⟩:∃M,q.done.length-n=M:=⟨_,rfl⟩;obtain⟨N,hN⟩:∃N,q.done.length=N:=⟨_,rfl⟩;rw[hM]at hsl hI;rw[hN]at hsl c2;have HC:Hid (∀W,Below w.heap.size w W->Calls Tryz.prog 79 #[.slice ad2 M cap2] W fun e w'=>∃v',e=.returned v'/\w'.ownsRow W.heap.size 3 1 v' (q.done.drop n).length ((q.done.drop n).map (Value.int .i64))/\Below W.heap.size W w'):=fun W hW =>clone_ints (q.done.drop n) _ W (hI.below hW (Nat.le_refl _)) (by rw[List.length_drop];omega);have HKC:Hid (∀W,Below w.heap.size w W->W.cell? ⟨R,2,none⟩=some (.slice ad1 N cap1)/\W.cell? ⟨R,3,none⟩=some (.map (some c.B))):=fun W hW=>⟨(hW.cell (p:=⟨R,2,none⟩) h.lt).trans c2,(hW.cell (p:=⟨R,3,none⟩) h.lt).trans c3⟩;clear h hm h1 h6 hn hnl hl e1 hrow hI hg hM hN;go_enter Tryz.func151,Tryz.ntmps151
 go_upto_region 1 with(fail)
 go_region_held3 (fun w'=>w'.cell? ⟨R,2,none⟩=some (.slice ad1 N cap1)/\w'.cell? ⟨R,3,none⟩=some (.map (some c.B))) (first | exact⟨ke0,ke1⟩ | exact⟨c2,c3⟩) (first | (go_at_call 79;refine(HC.out _ (Below.refl _ w).drew).mono ?_;rintro e w1 ⟨v1,rfl,ho1,hb0⟩;have hb1:Below w.heap.size w w1:=(Below.refl _ w).drew.trans hb0;clear hb0;obtain⟨ke0,ke1⟩:=HKC.out w1 hb1))
 all_goals
  go_wp2_with fail;go_ret;exact⟨_,rfl,zap ho1 rfl,hb1⟩
end Go.Proofs.YthlhgiihngcobaaGreatDoor
namespace Go.Proofs.YthlhgiihngcobaaGreatDoor
open Go.RowKit Go.Shelf
attribute [local go_sem] Oper.semAt_some
abbrev Sx:={ t:Int // 1<=t/\t<=6 }
def sx0:Sx:=⟨1,by omega,by omega⟩
def uptoB{α:Type}(f:Nat->α)(k:Nat):List α:=(List.range k).map f
theorem uptoB_succ{α:Type}(f:Nat->α)(k:Nat):uptoB f (k+1)=uptoB f k++[f k]:=by simp[uptoB,List.range_succ]
theorem zlQ{α:Type}(f:Nat->α)(k:Nat):(uptoB f k).length=k:=by simp[uptoB]
def backF(zs:List Sx)(k:Nat):Nat × Sx:=(zs.length-1-k,zs[zs.length-1-k]?.getD sx0)
theorem zxE(F:Fence)(n:Nat)(h7:F.fn 238)(hro:F.round=none)(hn:1<=n)(l Bs n₀ b off cap:Nat)(ad:Option Addr)(zs:List Sx)(hreach:zs.length<=1000)(hBn:Bs<n₀)(J Jx:List (Nat × Sx)->World->Prop)
  (hY:∀pre x W,J pre W->pre.length<zs.length->YieldAt F (n-1) Tryz.prog l #[.int .i64 (x.1:Int),.int .i64 x.2.1] W fun e W' =>(e=.returned (.bool true)/\J (pre++[x]) W'/\Below n₀ W W')\/(e=.returned (.bool false)/\Jx (pre++[x]) W'))
  (W:World) (hBs:W.cell? ⟨Bs,0,none⟩=some (.slice ad zs.length cap)) (hc:∀j,j<zs.length->ad=some ⟨b,off,none⟩/\b<n₀/\W.cell? ⟨b,off+j,none⟩=some (.int .i64 (zs[j]?.getD sx0).1)) (h0:J [] W) :
  CallsIn F n Tryz.prog 238 #[.func (.yield l) #[] #[],.pointer (some ⟨Bs,0,none⟩)] W fun e W'=>(∃v,e=.returned v) /\
   ((∃ys,ys=uptoB (backF zs) zs.length/\J ys W')\/(∃pre,(∃k,k<=zs.length/\pre=uptoB (backF zs) k)/\Jx pre W')):=by
 obtain⟨N,hN⟩:∃N,zs.length=N:=⟨_,rfl⟩;rw[hN]at hBs hreach;have HC:Hid (∀j,j<N->ad=some ⟨b,off,none⟩/\b<n₀/\W.cell? ⟨b,off+j,none⟩=some (.int .i64 (zs[j]?.getD sx0).1)):=fun j hj=>hc j (by rw[hN];exact hj);have HY:Hid (∀pre x W,J pre W->pre.length<N->YieldAt F (n-1) Tryz.prog l #[.int .i64 (x.1:Int),.int .i64 x.2.1] W fun e W'=>(e=.returned (.bool true)/\J (pre++[x]) W'/\Below n₀ W W')\/(e=.returned (.bool false)/\Jx (pre++[x]) W')):=fun pre x W h1 h2=>hY pre x W h1 (by rw[hN];exact h2);have HN:=zae hN;clear hc hY hN;refine callsIn_of_wp Tryz.func238 rfl h7 ?_ hro;simp only[Tryz.ntmps238,List.size_toArray,List.length_cons,List.length_nil,Nat.reduceAdd,Nat.reduceSub,Array.replicate_succ,Array.replicate_zero,List.push_toArray,List.append_toArray,List.nil_append,List.cons_append];gi_wp2
 gi_loopw [3] (fun i wr=>∃k j:Nat,k+j=N/\i=.int .i64 ((j:Int)-1)/\J (uptoB (backF zs) k) wr/\Below n₀ W wr)
  (fun i _=>(intOf i+1).toNat)
 case atStart=>exact⟨0,N,by omega,rfl,h0,Below.refl _ _⟩
 case round =>
  obtain⟨k,j,hk,rfl,hJs,hnx⟩:=hrel;cases j with
  | zero =>
    gi_wp2;go_end0;obtain rfl:k=N:=by omega
    exact⟨⟨_,rfl⟩,.inl ⟨_,by rw[HN.out],hJs⟩⟩
  | succ j =>
    have ej:((j+1:Nat):Int)-1=(j:Int):=by omega
    rw[ej];obtain⟨rfl,hbn,hcx⟩:=HC.out j (by omega);have hcx':=(hnx.cell (p:=⟨b,off+j,none⟩) hbn).trans hcx;have hBs':=(hnx.cell (p:=⟨Bs,0,none⟩) hBn).trans hBs;have hF:backF zs k=(j,zs[j]?.getD sx0):=by unfold backF;rw[HN.out,show N-1-k=j by omega]
    obtain⟨fn,tmps,assign,body,hy,hR⟩:=HY.out _ (j,zs[j]?.getD sx0) wr hJs (by rw[zlQ];omega);dsimp only at hy;have hjN:j<N:=by omega
    gi_wp2;refine hR.mono ?_;rintro e W3 (⟨rfl,hJ3,hk3⟩ | ⟨rfl,hJx3⟩)
    ·gi_wp2;go_roundw
     case rel=>exact⟨k+1,j,by omega,by simp,by rw[uptoB_succ,hF];exact hJ3,hnx.trans hk3⟩
     case measure=>simp[intOf]
    ·gi_wp2;refine bodyPost_ret (results_none rfl _ _ _) rfl ?_;exact⟨⟨_,rfl⟩,.inr ⟨_,⟨k+1,by have:=HN.out;omega,rfl⟩,by rw[uptoB_succ,hF];exact hJx3⟩⟩
theorem zrT(F:Fence)(n:Nat)(h7:F.fn 238)(hro:F.round=none)(hn:1<=n)(Bs n₀ b off cap:Nat)(ad:Option Addr)(zs:List Sx)(hreach:zs.length<=1000)(w:World)(hBs:Bs<n₀)(hn₀:n₀<=w.heap.size)
  (hc:w.cell? ⟨Bs,0,none⟩=some (.slice ad zs.length cap)) (hI:∀j,j<zs.length->ad=some ⟨b,off,none⟩/\b<n₀/\w.cell? ⟨b,off+j,none⟩=some (.int .i64 (zs[j]?.getD sx0).1)) :
  SeqStopsK F n Tryz.prog 238 #[.pointer (some ⟨Bs,0,none⟩)] (fun x:Nat × Sx=>#[Value.int .i64 (x.1:Int),Value.int .i64 x.2.1]) (Below n₀) (fun ys=>ys=uptoB (backF zs) zs.length)
   (fun pre=>∃k,k<=zs.length/\pre=uptoB (backF zs) k) zs.length w:=fun l J Jx W hW _ _ hY h0 =>
 zxE F n h7 hro hn l Bs n₀ b off cap ad zs hreach hBs J Jx hY W ((hW.cell (p:=⟨Bs,0,none⟩) (by show Bs<_;omega)).trans hc) (fun j hj=>⟨(hI j hj).1,(hI j hj).2.1,(hW.cell (p:=⟨b,off+j,none⟩) (by have:=(hI j hj).2.1;show b<_;omega)).trans (hI j hj).2.2⟩) h0
theorem zAp(F:Fence)(n:Nat)(h5:F.fn 206)(hro:F.round=none)(a:Option Addr)(len cap:Nat)(w:World):CallsIn F n Tryz.prog 206 #[.slice a len cap] w fun e w'=>e=.returned (.func (.func 238) #[] #[.pointer (some ⟨w.heap.size,0,none⟩)])/\w'=w.alloc (.cells #[.slice a len cap] 24):=by refine callsIn_of_wp Tryz.func206 rfl h5 ?_ hro;simp only[Tryz.ntmps206,List.size_toArray,List.length_cons,List.length_nil,Nat.reduceAdd,Nat.reduceSub,Array.replicate_succ,Array.replicate_zero,List.push_toArray,List.append_toArray,List.nil_append,List.cons_append];gi_wp2;go_ret;exact⟨rfl,rfl⟩
theorem zlI(zs:List Sx){k:Nat}(hk:k<zs.length):(zs.map (·.1)).take (zs.length-k)=(zs.map (·.1)).take (zs.length-(k+1))++[(backF zs k).2.1]:=by
 have e:zs.length-k=zs.length-(k+1)+1:=by omega
 rw[e,List.take_succ_eq_append_getElem (by simp;omega)];congr 2;unfold backF;rw[show zs.length-1-k=zs.length-(k+1)by omega,List.getElem?_eq_getElem (by omega)];simp
theorem zkU(wr:Int->List Int)(item:Int)(zs:List Sx):∀k,k<=zs.length->(∀p∈uptoB (backF zs) k,inB (wr p.2.1) item=false)->lastQ wr (zs.map (·.1)) item=lastQ wr ((zs.map (·.1)).take (zs.length-k)) item:=by
 intro k
 induction k with
 | zero=>intro _ _;rw[Nat.sub_zero,List.take_of_length_le (by simp)]
 | succ k ih =>intro hk hp;rw[uptoB_succ]at hp;rw[ih (by omega) fun p hm=>hp p (List.mem_append_left _ hm),zlI zs (by omega),zjw,if_neg (by rw[hp _ (List.mem_append_right _ (List.mem_singleton.2 rfl))];decide)]
theorem zr9(wr:Int->List Int)(item:Int)(zs:List Sx)(hp:∀p∈uptoB (backF zs) zs.length,inB (wr p.2.1) item=false):lastQ wr (zs.map (·.1)) item=0:=by rw[zkU wr item zs zs.length (Nat.le_refl _) hp,Nat.sub_self,List.take_zero];rfl
theorem zuJ(wr:Int->List Int)(item:Int)(zs:List Sx){k:Nat}(hk:k<zs.length)(hp:∀p∈uptoB (backF zs) k,inB (wr p.2.1) item=false)(ht:inB (wr (backF zs k).2.1) item=true):lastQ wr (zs.map (·.1)) item=(backF zs k).2.1:=by rw[zkU wr item zs k (by omega) hp,zlI zs hk,zjw,if_pos ht]
theorem zzT:∀l:List Int,(∀t∈l,1<=t/\t<=6)->∃zs:List Sx,zs.map (·.1)=l:=by
 intro l
 induction l with
 | nil=>intro _;exact⟨[],rfl⟩
 | cons t r ih =>intro h;obtain⟨zs,hz⟩:=ih fun x hx=>h x (List.mem_cons_of_mem _ hx);exact⟨⟨t,h t List.mem_cons_self⟩::zs,by rw[List.map_cons,hz]⟩
theorem zeA{w0 w:World}{R:Nat}{S F:Value}{q:Crs}{c:zbZ}(h:zaq w0 w R S F q c)(hq:zaR 1000 q)(l:List Int)(v:Value)(hI:zaf w v l)(h6:∀t∈l,1<=t/\t<=6)(hl:l.length<=1000)(item:Int):Calls Tryz.prog 163 #[.pointer (some ⟨R,0,none⟩),v,.int .i64 item] w fun e w'=>e=.returned (.int .i64 (lastQ q.wrote l item))/\Below w.heap.size w w':=by
 obtain⟨zs,hz⟩:=zzT l h6;have hzl:zs.length=l.length:=by rw[<-hz];simp
 obtain⟨ad,b,off,cap,rfl,ha,-,hbB,hc⟩:=hI;rw[<-hzl]
 have HI:Hid (∀j,j<zs.length->ad=some ⟨b,off,none⟩/\b<w.heap.size/\w.cell? ⟨b,off+j,none⟩=some (.int .i64 (zs[j]?.getD sx0).1)):=fun j hj=>by
  have hj':j<l.length:=by omega
  refine⟨ha (by omega),?_,?_⟩
  ·rcases hbB with h1 | h1
   ·exact h1
   ·rw[h1]at hj';simp at hj'
  ·rw[hc j hj',<-hz];simp[List.getD,List.getElem?_eq_getElem hj]
 have HL:=zae h;have HQ:=zae hq;have HZ:Hid (l=zs.map (·.1)):=hz.symm;have HR:Hid (zs.length<=1000):=by show zs.length<=1000;rw[hzl];exact hl
 obtain⟨N,hN⟩:∃N,zs.length=N:=⟨_,rfl⟩;rw[hN];have HN:=zae hN;clear h hq hz hzl ha hbB hc hN hl h6;refine(callsIn_wide (n:=3)).1 ?_;refine callsIn_of_wp_marks Tryz.func163 rfl trivial ?_ rfl;simp only[Tryz.ntmps163,List.size_toArray,List.length_cons,List.length_nil,Nat.reduceAdd,Nat.reduceSub,Array.replicate_succ,Array.replicate_zero,List.push_toArray,List.append_toArray,List.nil_append,List.cons_append];gi_wp2_with (refine⟨trivial,?_⟩;gi_at_call 206;refine(zAp Fence.wide _ trivial rfl _ _ _ _).mono ?_;rintro e w' ⟨rfl,rfl⟩);obtain⟨s,hs⟩:∃s,w.heap.size=s:=⟨_,rfl⟩;obtain⟨W0,hW0⟩:∃W0,W0=(((w.alloc (.cells #[.pointer (some ⟨R,0,none⟩)] 167)).alloc (.cells #[.int .i64 item] 3)).alloc (.cells #[.int .i64 0] 3)).alloc (.cells #[.slice ad N cap] 24):=⟨_,rfl⟩;have hB0:Below w.heap.size w W0:=by rw[hW0];exact((((Below.refl _ w).alloc (Nat.le_refl _) _).alloc (by simp) _).alloc (by simp;omega) _).alloc (by simp;omega) _
 have hsz:W0.heap.size=s+4:=by rw[hW0,<-hs];simp
 have bx:∀(W:World) (T:TypeId) (v:Value),Boxed (W.alloc (.cells #[v] T)) W.heap.size T v:=fun W T v=>Boxed.new W T v;have b0:Boxed W0 s 167 (.pointer (some ⟨R,0,none⟩)):=by rw[hW0,<-hs];exact(((bx w _ _).alloc _).alloc _).alloc _
 have b1:Boxed W0 (s+1) 3 (.int .i64 item):=by have:=((bx (w.alloc (.cells #[.pointer (some ⟨R,0,none⟩)] 167)) 3 (.int .i64 item)).alloc (.cells #[.int .i64 0] 3)).alloc (.cells #[.slice ad N cap] 24);rw[World.size_alloc,hs]at this;rw[hW0];exact this
 have b2:Boxed W0 (s+1+1) 3 (.int .i64 0):=by have:=(bx ((w.alloc (.cells #[.pointer (some ⟨R,0,none⟩)] 167)).alloc (.cells #[.int .i64 item] 3)) 3 (.int .i64 0)).alloc (.cells #[.slice ad N cap] 24);rw[World.size_alloc,World.size_alloc,hs]at this;rw[hW0];exact this
 have b3:Boxed W0 (s+1+1+1) 24 (.slice ad N cap):=by have:=bx (((w.alloc (.cells #[.pointer (some ⟨R,0,none⟩)] 167)).alloc (.cells #[.int .i64 item] 3)).alloc (.cells #[.int .i64 0] 3)) 24 (.slice ad N cap);rw[World.size_alloc,World.size_alloc,World.size_alloc,hs]at this;rw[hW0];exact this
 rw[<-hW0];simp only[hs];have HI0:Hid (∀j,j<zs.length->ad=some ⟨b,off,none⟩/\b<s+4/\W0.cell? ⟨b,off+j,none⟩=some (.int .i64 (zs[j]?.getD sx0).1)):=fun j hj=>by obtain⟨u1,u2,u3⟩:=HI.out j hj;exact⟨u1,by omega,(hB0.cell (p:=⟨b,off+j,none⟩) u2).trans u3⟩
 clear hW0 bx
 refine wpIn_rangeFunc_ownG rfl (by omega) (gf:=238) (lb:=#[.pointer (some ⟨s+1+1+1,0,none⟩)]) rfl trivial (enters_of Tryz.func238 (by kernel_rfl) rfl)
  (zrT Fence.wide _ trivial rfl (by omega) (s+1+1+1) (s+4) b off cap ad zs HR.out W0 (by omega) (by omega) (by rw[HN.out];exact b3.cell) HI0.out) belowK_t (belowK_b (by omega)) (Below.refl _ _) (fun _=>rfl)
  (fun pre W=>((∀p∈pre,inB (q.wrote p.2.1) item=false)/\W.cell? ⟨s,0,none⟩=some (.pointer (some ⟨R,0,none⟩))/\W.cell? ⟨s+1,0,none⟩=some (.int .i64 item)/\W.cell? ⟨s+1+1,0,none⟩=some (.int .i64 0)/\W.frozen? ⟨s+1+1,0,none⟩=false)/\Below s w W)
  (fun c pre W=>(c=.ret/\∃ini last,pre=ini++[last]/\(∀p∈ini,inB (q.wrote p.2.1) item=false)/\inB (q.wrote last.2.1) item=true/\W.cell? ⟨s+1+1,0,none⟩=some (.int .i64 last.2.1))/\Below s w W)
  (OwnFrom.and (Own.from (fun s A B row hs hg hr=>⟨hs.1,cell_kept hs.2.1 hg hr,cell_kept hs.2.2.1 hg hr,cell_kept hs.2.2.2.1 hg hr,(frozen_kept hs.2.2.2.1 hg hr).trans hs.2.2.2.2⟩) _) (ownFrom_below (by omega) (by omega)))
  (fun c=>OwnFrom.and (Own.from (fun s A B row hs hg hr=>by obtain⟨hc,ini,last,e1,e2,e3,e4⟩:=hs;exact⟨hc,ini,last,e1,e2,e3,cell_kept e4 hg hr⟩) _) (ownFrom_below (by omega) (by omega)))
  ⟨⟨by simp,b0.cell,b1.cell,b2.cell,b2.frozen⟩,hs ▸hB0⟩
  (fun x=>{ tmps:=#[.pointer (some ⟨R,0,none⟩),.slice ad N cap,.int .i64 item,.pointer (some ⟨s,0,none⟩),undef,.pointer (some ⟨s+1,0,none⟩),.pointer (some ⟨s+1+1,0,none⟩),undef,.int .i64 x.2.1,.slice ad N cap,.func (.func 238) #[] #[.pointer (some ⟨s+1+1+1,0,none⟩)],.int .i64 (x.1:Int),.int .i64 x.2.1,undef,undef,undef,undef,undef],defers:=[] }) ?assign ?body ?done ?stop
 case assign =>intro l x W K hK;gi_wp2;exact hK
 case body =>
  rintro l pre x W ⟨⟨hp,j0,j1,j2,hfr⟩,hB⟩ _;have HCW:=zae (zde (HL.out.below (hs ▸hB)) x.2.2.1 x.2.2.2 item (HQ.out.lenW _));cases hin:inB (q.wrote x.2.1) item with
  | true =>rw[hin]at HCW;gi_wp2_with (refine⟨trivial,?_⟩;gi_at_call 155;refine(CallsIn.inRound l (callsIn_wide.2 HCW.out)).mono ?_;rintro e w' ⟨rfl,rfl⟩);exact⟨(KeepsOthers.setCell _ _ _).from _,⟨rfl,pre,x,rfl,hp,hin,World.cell?_setCell_same' _ _ _ (by rw[j2];rfl)⟩,hB.setCell (p:=⟨s+1+1,0,none⟩) (by show s<=s+1+1;omega) _⟩
  | false =>rw[hin]at HCW;gi_wp2_with (refine⟨trivial,?_⟩;gi_at_call 155;refine(CallsIn.inRound l (callsIn_wide.2 HCW.out)).mono ?_;rintro e w' ⟨rfl,rfl⟩);exact⟨KeepsFrom.refl _ _,Below.refl _ _,⟨fun p hp'=>(List.mem_append.1 hp').elim (hp p) (fun e=>by simp at e;subst e;exact hin),j0,j1,j2,hfr⟩,hB⟩
 case done =>
  rintro D ys W hD rfl ⟨⟨hne,j0,j1,j2,hfr⟩,hB⟩ hK;gi_wp2;have hK':=(KeepsOthers.setCell W ⟨s+1+1,0,none⟩ (.int .i64 0)).same D _ hK rfl;refine⟨by simp,.inl ⟨_,_,rfl,run_takeDeferred hK',?_⟩⟩;have hc5:=cell_kept (World.cell?_setCell_same' W ⟨s+1+1,0,none⟩ (.int .i64 0) (by rw[j2];rfl)) (grownBy_putObj' _ D (.deferred none)) (fun r e=>by cases e;exact⟨_,hK',rfl⟩);refine⟨.int .i64 0,?_,?_,hs ▸(hB.setCell (p:=⟨s+1+1,0,none⟩) (by show s<=s+1+1;omega) _).trans (belowK_b (w:=w) (by omega) _ D _ _ (by omega) hK' rfl rfl)⟩
  ·simp[results,Tryz.f163,go_sem,hc5]
  ·rw[HZ.out,zr9 _ _ _ hne]
 case stop =>
  rintro D c pre W hD ⟨k,hk,rfl⟩ ⟨⟨rfl,ini,last,e1,e2,e3,hcr⟩,hB⟩ hK;gi_wp2;refine⟨by simp,.inl ⟨_,_,rfl,run_takeDeferred hK,?_⟩⟩;have hc5:=cell_kept hcr (grownBy_putObj' _ D (.deferred none)) (fun r e=>by cases e;exact⟨_,hK,rfl⟩)
  obtain⟨k',rfl⟩:∃k',k=k'+1:=by
   cases k with
   | zero=>simp[uptoB]at e1
   | succ k'=>exact⟨k',rfl⟩
  rw[uptoB_succ]at e1;obtain⟨rfl,e5⟩:=List.append_inj' e1 rfl;obtain rfl:backF zs k'=last:=by simpa using e5
  refine⟨.int .i64 (backF zs k').2.1,?_,?_,hs ▸hB.trans (belowK_b (w:=w) (by omega) W D _ _ (by omega) hK rfl rfl)⟩
  ·simp[results,Tryz.f163,go_sem,hc5]
  ·rw[HZ.out,zuJ _ _ _ (by omega) e2 e3]
theorem zxw{w0 w:World}{R:Nat}{S F:Value}{q:Crs}{c:zbZ}(h:zaq w0 w R S F q c)(hq:zaR 1000 q)(item:Int):Calls Tryz.prog 148 #[.pointer (some ⟨R,0,none⟩),.int .i64 item] w fun e w'=>e=.returned (.int .i64 (lastQ q.wrote q.done item))/\Below w.heap.size w w':=by have c2:=h.c2;obtain⟨ad,cap,e1,-⟩:=zad h.done;have hI:=zap h.done rfl;rw[e1]at c2 hI;have HC:=zae (zeA h hq q.done _ hI hq.six hq.lenD item);obtain⟨n,hn⟩:∃n,q.done.length=n:=⟨_,rfl⟩;rw[hn]at c2 HC;clear h hq e1 hI hn;go_enter Tryz.func148,Tryz.ntmps148;go_wp2_with (go_at_call 163;refine HC.out.mono ?_;rintro e w1 ⟨rfl,hb1⟩);go_ret;exact⟨rfl,hb1⟩
theorem ziO{w0 w:World}{R:Nat}{S F:Value}{q:Crs}{c:zbZ}(h:zaq w0 w R S F q c)(hq:zaR 1000 q){t:Int}(h1:1<=t)(h6:t<=6){n:Nat}(hn:q.began t=some n)(item:Int):Calls Tryz.prog 198 #[.pointer (some ⟨R,0,none⟩),.int .i64 t,.int .i64 item] w fun e w'=>e=.returned (.int .i64 (lastQ q.wrote (q.done.take n) item))/\Below w.heap.size w w':=by
 have c2:=h.c2;have c3:=h.c3;obtain⟨m,hm⟩:=h.beg;have hwf:=zaX h1 h6;obtain⟨ad1,cap1,e1,-⟩:=zad h.done;have hrow:=h.done;rw[e1]at hrow c2;obtain⟨ad2,cap2,hsl,hI⟩:=zlL hrow (hq.cnt t n hn);have hg:(zgV q.began t).getD (.int .i64 0)=.int .i64 (n:Int):=by unfold zgV;rw[hn];rfl
 have hlk0:(Instr.lookup 148 (.map (some c.B)) (.int .i64 t) false).run Tryz.prog w.drew=.ok (.int .i64 (n:Int)) w.drew:=by have:=(zax.drew hm).look false Tryz.underlying148 (zem _) hwf;rw[hg]at this;exact this
 obtain⟨N,hN⟩:∃N,q.done.length=N:=⟨_,rfl⟩;rw[hN]at hsl c2;have HC:Hid (∀W,Below w.heap.size w W->Calls Tryz.prog 163 #[.pointer (some ⟨R,0,none⟩),.slice ad2 n cap2,.int .i64 item] W fun e w'=>e=.returned (.int .i64 (lastQ q.wrote (q.done.take n) item))/\Below W.heap.size W w'):=fun W hW =>zeA (h.below hW) hq (q.done.take n) _ (hI.below hW (Nat.le_refl _)) (fun t ht=>hq.six t (List.mem_of_mem_take ht)) (by have:=hq.lenD;rw[List.length_take];omega) item;have HKC:Hid (∀W,Below w.heap.size w W->W.cell? ⟨R,2,none⟩=some (.slice ad1 N cap1)/\W.cell? ⟨R,3,none⟩=some (.map (some c.B))):=fun W hW=>⟨(hW.cell (p:=⟨R,2,none⟩) h.lt).trans c2,(hW.cell (p:=⟨R,3,none⟩) h.lt).trans c3⟩;clear h hq hm h1 h6 hn e1 hrow hI hg hN;go_enter Tryz.func198,Tryz.ntmps198
 go_upto_region 1 with(fail)
 go_region_held3 (fun w'=>w'.cell? ⟨R,2,none⟩=some (.slice ad1 N cap1)/\w'.cell? ⟨R,3,none⟩=some (.map (some c.B))) (first | exact⟨ke0,ke1⟩ | exact⟨c2,c3⟩) (first | (go_at_call 163;refine(HC.out _ (Below.refl _ w).drew).mono ?_;rintro e w1 ⟨rfl,hb0⟩;have hb1:Below w.heap.size w w1:=(Below.refl _ w).drew.trans hb0;clear hb0;obtain⟨ke0,ke1⟩:=HKC.out w1 hb1))
 all_goals
  go_wp2_with fail;go_ret;exact⟨rfl,hb1⟩
end Go.Proofs.YthlhgiihngcobaaGreatDoor
