/-
  PROVED HERE: a square of bools (from which deal to which) in a block of memory, and what becomes of it when one of them is; plain facts, with no word of the program; plain facts, with no word of the program; nothing yet of package strict.
  Conditions: none but those that each theorem's own premises say.
-/
import Derived.Test.YthlhgiihngcobaaGreatDoorMgam
import Derived.Laws.Rows
import Derived.Laws.CopyOwn
import Derived.Test.YthlhgiihngcobaaGreatDoorMgag
import Derived.Test.YthlhgiihngcobaaGreatDoorMgah
set_option maxHeartbeats 32000000
set_option maxRecDepth 100000
namespace Go.Proofs.YthlhgiihngcobaaGreatDoor
open Go.RowKit
def zvl(s:zbb):zbg:=fun k=>s (k / 7) (k % 7)
def cells49(s:zbb):Array Value:=((List.range 49).map fun k=>Value.bool (zvl s k)).toArray
theorem zcg(s:zbb):(cells49 s).size=49:=by simp[cells49]
theorem zgx(s:zbb)(k:Nat)(h:k<49):(cells49 s)[k]? = some (.bool (zvl s k)):=by simp[cells49,h]
theorem znl(s:zbb):(cells49 s).all (·.oneCell')=true:=by rw[Array.all_eq_true_iff_forall_mem];intro v hv;simp only[cells49,List.mem_toArray,List.mem_map]at hv;obtain⟨k,_,rfl⟩:=hv;rfl
theorem zye(i k:Nat)(hk:k<7)(s:zbb):zvl s (i*7+k)=s i k:=by unfold zvl;rw[show(i*7+k) / 7=i by omega,show(i*7+k) % 7=k by omega]
def zAI(s:zbb)(t a:Nat):zbb:=fun i k=>if i=t/\k=a then true else s i k
theorem zn2(s:zbb)(t a:Nat)(ha:a<7):(cells49 s).setIfInBounds (t*7+a) (.bool true)=cells49 (zAI s t a):=by
 refine Array.ext_getElem? fun j=>?_;rw[Array.getElem?_setIfInBounds,zcg];by_cases hj:j<49
 ·rw[zgx _ j hj,zgx _ j hj];unfold zvl zAI;by_cases e:t*7+a=j
  ·rw[if_pos e,if_pos (by omega),if_pos (by omega)]
  ·rw[if_neg e,if_neg (by omega)]
 ·have h1:∀r,(cells49 r)[j]? = none:=fun r=>Array.getElem?_eq_none (by rw[zcg];omega);rw[h1,h1];by_cases e:t*7+a=j
  ·rw[if_pos e,if_neg (by omega)]
  ·rw[if_neg e]
def zbp(w:World)(b:Nat)(s:zbb):Prop:=w.heap[b]? = some (.cells (cells49 s) 330 (0,0))
theorem zbp.lt{w:World}{b:Nat}{s:zbb}(h:zbp w b s):b<w.heap.size:=by have h':w.heap[b]? = some _:=h;exact(Array.getElem?_eq_some_iff.1 h').1
theorem zbp.cell{w:World}{b:Nat}{s:zbb}(h:zbp w b s){i k:Nat}(hi:i<7)(hk:k<7):w.cell? ⟨b,i*7+k,none⟩=some (.bool (s i k)):=by rw[cell_of_row w b _ _ _ _ h,zgx s _ (by omega),zye i k hk]
theorem zbp.thaw{w:World}{b:Nat}{s:zbb}(h:zbp w b s)(k:Nat):w.frozen? ⟨b,k,none⟩=false:=by have h':w.heap[b]? = some _:=h;simp[World.frozen?,h']
theorem zbp.drew{w:World}{b:Nat}{s:zbb}(h:zbp w b s):zbp w.drew b s:=h
theorem zbp.alloc{w:World}{b:Nat}{s:zbb}(h:zbp w b s)(o:Obj):zbp (w.alloc o) b s:=(Below.heap_alloc w o b h.lt).trans h
theorem zbp.far{w:World}{b:Nat}{s:zbb}(h:zbp w b s){p:Addr}(v:Value)(hp:b≠p.block):zbp (w.setCell p v) b s:=(Below.heap_setCell w p v b hp).trans h
theorem zbp.set{w:World}{b t a:Nat}{s:zbb}(h:zbp w b s)(ha:a<7):zbp (w.setCell ⟨b,t*7+a,none⟩ (.bool true)) b (zAI s t a):=by have h':w.heap[b]? = some (.cells (cells49 s) 330 (0,0)):=h;unfold zbp World.setCell;rw[Array.getElem?_modify];simp[h',zn2 s t a ha]
theorem zbp.congr{w:World}{b:Nat}{s r:zbb}(h:zbp w b s)(he:s=r):zbp w b r:=he ▸h
theorem zsP(w:World)(s:zbb):zbp (w.alloc (.cells (cells49 s) 330)) w.heap.size s:=by unfold zbp World.alloc;simp
theorem zkN(w:World)(c:Array Value)(h:cells49 (fun _ _=>false)=c):zbp (w.alloc (.cells c 330)) w.heap.size (fun _ _=>false):=h ▸zsP w _
theorem zqE(w:World)(o:Obj)(c:Array Value)(h:cells49 (fun _ _=>false)=c):zbp ((w.alloc o).alloc (.cells c 330)) (w.heap.size+1) (fun _ _=>false):=by have:=zkN (w.alloc o) c h;simpa using this
theorem zwJ:(Tryz.prog.info? 330).map (·.size)=some 49:=by kernel_rfl
theorem ziD(s:zbb):(Tryz.prog.info? 330).map (·.size)=some (cells49 s).size:=by rw[zcg];exact zwJ
end Go.Proofs.YthlhgiihngcobaaGreatDoor
namespace Go.Proofs.YthlhgiihngcobaaGreatDoor
def zB0(i k a b:Nat):Bool:=decide (1<=a/\a<=6/\1<=b/\b<=6/\(a<i\/(a=i/\b<k)))
def partW(W:zbb)(m i k:Nat):zbb:=fun a b=>W a b || (zB0 i k a b && (W a m && W m b))
def warTo(l:List zab):Nat->zbb
 | 0=>stepsS l
 | n+1=>partW (warTo l n) (n+1) 7 1
theorem zvK(l:List zab):∀n i k,warTo l n i k=true->Way (stepsS l) i k:=by
 intro n
 induction n with
 | zero=>intro i k h;exact .one h
 | succ n ih =>
   intro i k h;unfold warTo partW at h;simp only[Bool.or_eq_true,Bool.and_eq_true]at h;rcases h with h | ⟨_,h1,h2⟩
   ·exact ih _ _ h
   ·exact(ih _ _ h1).trans (ih _ _ h2)
theorem war_more(l:List zab)(n i k:Nat)(h:warTo l n i k=true):warTo l (n+1) i k=true:=by unfold warTo partW;rw[h];rfl
theorem zpE(l:List zab):∀n i k,stepsS l i k=true->warTo l n i k=true:=by
 intro n
 induction n with
 | zero=>intro i k h;exact h
 | succ n ih=>intro i k h;exact war_more l n i k (ih i k h)
def zuO(i:Nat):Prop:=1<=i/\i<=6
theorem zj9{l:List zab}{n i k:Nat}(hi:zuO i)(hk:zuO k):warTo l (n+1) i k=(warTo l n i k || (warTo l n i (n+1) && warTo l n (n+1) k)):=by
 show partW (warTo l n) (n+1) 7 1 i k=_;unfold partW;have:zB0 7 1 i k=true:=by unfold zB0;unfold zuO at hi hk;simp;omega
 rw[this,Bool.true_and]
theorem zv8(l:List zab):∀n,n<=6->∀j,1<=j->j<=n->∀i k,zuO i->zuO k->warTo l n i j=true->warTo l n j k=true->warTo l n i k=true:=by
 intro n
 induction n with
 | zero=>intro _ j h1 h2;omega
 | succ n ih =>
   intro hn j h1 h2 i k hi hk hij hjk;have hm:zuO (n+1):=⟨by omega,hn⟩;have hj:zuO j:=⟨h1,by omega⟩;have ih':=ih (by omega);rw[zj9 hi hj]at hij;rw[zj9 hj hk]at hjk;rw[zj9 hi hk];simp only[Bool.or_eq_true,Bool.and_eq_true]at hij hjk ⊢;by_cases e:j=n+1
   ·subst e;have a1:warTo l n i (n+1)=true:=by rcases hij with h | h;exact h;exact h.1
    have a2:warTo l n (n+1) k=true:=by rcases hjk with h | h;exact h;exact h.2
    exact .inr ⟨a1,a2⟩
   ·have hjn:j<=n:=by omega
    rcases hij with h | ⟨h,h'⟩
    ·rcases hjk with g | ⟨g,g'⟩
     ·exact .inl (ih' j h1 hjn i k hi hk h g)
     ·exact .inr ⟨ih' j h1 hjn i (n+1) hi hm h g,g'⟩
    ·rcases hjk with g | ⟨g,g'⟩
     ·exact .inr ⟨h,ih' j h1 hjn (n+1) k hm hk h' g⟩
     ·exact .inr ⟨h,g'⟩
theorem zxf{l:List zab}(hr:zgZ l){i k:Nat}(h:Way (stepsS l) i k):warTo l 6 i k=true:=by
 have h2:warTo l 6 i k=true/\zuO i/\zuO k:=zng (R:=fun i k=>warTo l 6 i k=true/\zuO i/\zuO k)
  (fun x y e=>⟨zpE l 6 x y e,(zdC hr e).1,(zdC hr e).2⟩)
  (fun x y z e _ ih=>⟨zv8 l 6 (by omega) y (zdC hr e).2.1 (zdC hr e).2.2 x z (zdC hr e).1 ih.2.2 (zpE l 6 x y e) ih.1,(zdC hr e).1,ih.2.2⟩) h
 exact h2.1
theorem zy3{l:List zab}(hr:zgZ l)(i k:Nat):warTo l 6 i k=true↔Way (stepsS l) i k:=⟨zvK l 6 i k,zxf hr⟩
end Go.Proofs.YthlhgiihngcobaaGreatDoor
namespace Go.Proofs.YthlhgiihngcobaaGreatDoor
structure zat where
 tab:za3
 waits:Int->Bool
 op:Int->Op3
 behind:Int->List Op3
 out:Int->Bool
 told:List Op3
 vict:List Int
def setF{α:Type}(f:Int->α)(t:Int)(x:α):Int->α:=fun j=>if j=t then x else f j
theorem setF_same{α:Type}(f:Int->α)(t:Int)(x:α):setF f t x t=x:=if_pos rfl
theorem zaa{α:Type}(f:Int->α){t d:Int}(x:α)(h:d≠t):setF f t x d=f d:=if_neg h
def zvR:zat:=⟨([],[]),fun _=>false,fun _=>(0,0,0),fun _=>[],fun _=>false,[],[]⟩
def zaN(s:za3)(t:Int):List Int:=match s.2.find? (fun y=>y.1 == t)with | none=>[] | some x=>zyy s x
def zAT(s:za3):List zab:=(List.range 6).flatMap fun(d:Nat)=>(zaN s ((d:Int)+1)).map fun x=>((d:Int)+1,x)
def zqi(s:za3)(t:Int):Bool:=warTo (zAT s) 6 t.toNat t.toNat
def drainN(doF:zat->Op3->zat)(d:Int):Nat->zat->zat
 | 0,r=>r
 | m+1,r=>if r.waits d=true then r else match r.behind d with | []=>r | o::q=>drainN doF d m (doF { r with behind:=setF r.behind d q } o)
def zbR(doF:zat->Op3->zat)(r:zat)(x:Op3):zat :=if r.waits x.1=true then drainN doF x.1 (r.behind x.1).length { r with waits:=setF r.waits x.1 false,told:=r.told++[r.op x.1] }else r
def zgk(doF:zat->Op3->zat)(r:zat)(t:Int):zat:=(freeT r.tab t).2.foldl (zbR doF) { r with tab:=(freeT r.tab t).1 }
def abort0(r:zat)(t:Int):zat:={ r with out:=setF r.out t true,vict:=r.vict++[t],told:=r.told++[(t,4,0)],waits:=setF r.waits t false,behind:=setF r.behind t [] }
def zco(doF:zat->Op3->zat)(r:zat)(t:Int):zat:=zgk doF (abort0 r t) t
def zdQ(s:za3)(t:Int):Option Int:=(zaN s t).find? fun x=>decide (t<x)
def woundN(doF:zat->Op3->zat)(t:Int):Nat->zat->zat
 | 0,r=>r
 | n+1,r=>match zdQ r.tab t with | none=>r | some v=>woundN doF t n (zco doF r v)
def zc4(r:zat)(o:Op3):zat:={ r with tab:=(askT r.tab (o.1,o.2.2,o.2.1)).2,waits:=setF r.waits o.1 true,op:=setF r.op o.1 o }
def zlN(way:Int)(doF:zat->Op3->zat)(r:zat)(t:Int):zat :=
 if way=0 then(if zqi r.tab t=true then zco doF r t else r)
 else if way=1 then(match zaN r.tab t with | []=>r | x::_=>if x<t then zco doF r t else r)
 else woundN doF t 7 r
def doW(way:Int)(doF:zat->Op3->zat)(r:zat)(o:Op3):zat :=
 if 3<=o.2.1 then zgk doF { r with told:=r.told++[o] } o.1
 else if(askT r.tab (o.1,o.2.2,o.2.1)).1.1=true then { r with tab:=(askT r.tab (o.1,o.2.2,o.2.1)).2,told:=r.told++[o] }
 else zlN way doF (zc4 r o) o.1
def doN(way:Int):Nat->zat->Op3->zat
 | 0=>fun r _=>r
 | n+1=>doW way (doN way n)
def zc5(way:Int)(r:zat)(o:Op3):zat :=if r.out o.1=true then r else if r.waits o.1=true then { r with behind:=setF r.behind o.1 (r.behind o.1++[o]) }else doN way 41 r o
def zaI(way:Int)(l:List Op3):zat:=l.foldl (zc5 way) zvR
def cnt6(f:Int->Bool):Nat:=(f 1).toNat+(f 2).toNat+(f 3).toNat+(f 4).toNat+(f 5).toNat+(f 6).toNat
def sum6(f:Int->List Op3):Nat:=(f 1).length+(f 2).length+(f 3).length+(f 4).length+(f 5).length+(f 6).length
theorem six{d:Int}(h1:1<=d)(h6:d<=6):d=1\/d=2\/d=3\/d=4\/d=5\/d=6:=by omega
theorem zmf{f:Int->Bool}{d:Int}:cnt6 (setF f d false)<=cnt6 f:=by
 have h:∀j:Int,(setF f d false j).toNat<=(f j).toNat:=fun j=>by unfold setF;split <;> simp
 have:=h 1;have:=h 2;have:=h 3;have:=h 4;have:=h 5;have:=h 6;unfold cnt6;omega
theorem zcq{f:Int->Bool}{d:Int}(h1:1<=d)(h6:d<=6)(h:f d=true):cnt6 (setF f d false)+1=cnt6 f:=by rcases six h1 h6 with rfl | rfl | rfl | rfl | rfl | rfl <;> simp[cnt6,setF,h] <;> omega
theorem zpl{f g:Int->Bool}(h:∀d,f d=true->g d=true):cnt6 f<=cnt6 g:=by
 have h':∀j:Int,(f j).toNat<=(g j).toNat:=fun j=>by
  cases hf:f j with
  | false=>simp
  | true=>rw[h j hf];simp
 have:=h' 1;have:=h' 2;have:=h' 3;have:=h' 4;have:=h' 5;have:=h' 6;unfold cnt6;omega
theorem zdz{f g:Int->List Op3}(h:∀d,(f d).length<=(g d).length):sum6 f<=sum6 g:=by have:=h 1;have:=h 2;have:=h 3;have:=h 4;have:=h 5;have:=h 6;unfold sum6;omega
theorem zoc{f:Int->List Op3}{d:Int}{o:Op3}{q:List Op3}(h1:1<=d)(h6:d<=6)(h:f d=o::q):sum6 (setF f d q)+1=sum6 f:=by rcases six h1 h6 with rfl | rfl | rfl | rfl | rfl | rfl <;> simp[sum6,setF,h] <;> omega
theorem zpq{f:Int->List Op3}{d:Int}(o:Op3)(h1:1<=d)(h6:d<=6):sum6 (setF f d (f d++[o]))=sum6 f+1:=by rcases six h1 h6 with rfl | rfl | rfl | rfl | rfl | rfl <;> simp[sum6,setF] <;> omega
theorem zyC{f:Int->List Op3}{d:Int}(h1:1<=d)(h6:d<=6):(f d).length<=sum6 f:=by rcases six h1 h6 with rfl | rfl | rfl | rfl | rfl | rfl <;> simp[sum6] <;> omega
def pot(r:zat):Nat:=r.told.length+sum6 r.behind+cnt6 r.waits+cnt6 fun d=>!r.out d
structure zb5(r:zat):Prop where
 t1:∀x∈r.tab.1,r.out x.1=false/\1<=x.1/\x.1<=6
 t2:∀x∈r.tab.2,r.out x.1=false/\1<=x.1/\x.1<=6
 gone:∀d,r.out d=true->r.behind d=[]
 ops:∀d,∀o∈r.behind d,o.1=d/\isOpB o=true
 size:r.tab.1.length+r.tab.2.length<=r.told.length+cnt6 r.waits
 vict:r.vict.length+(cnt6 fun d=>!r.out d)<=6
 wait:∀d,r.waits d=true->1<=d/\d<=6
theorem good0:zb5 zvR:=⟨fun x h=>(by cases h),fun x h=>(by cases h),fun d h=>(by cases h),fun d o h=>(by cases h),by decide,by decide,fun d h=>(by cases h)⟩
structure Step(r r':zat)(c:Nat):Prop where
 good:zb5 r'
 less:∀d,(r'.behind d).length<=(r.behind d).length
 outs:∀d,r.out d=true->r'.out d=true
 pots:pot r'<=pot r+c
theorem Step.refl{r:zat}(h:zb5 r):Step r r 0:=⟨h,fun _=>Nat.le_refl _,fun _ h=>h,Nat.le_refl _⟩
theorem Step.trans{r s u:zat}{a b c:Nat}(h:Step r s a)(k:Step s u b)(hc:a+b<=c):Step r u c :=⟨k.good,fun d=>Nat.le_trans (k.less d) (h.less d),fun d hd=>k.outs d (h.outs d hd),by have:=h.pots;have:=k.pots;omega⟩
theorem Step.mono{r s:zat}{a b:Nat}(h:Step r s a)(hab:a<=b):Step r s b:=⟨h.good,h.less,h.outs,by have:=h.pots;omega⟩
def zky(doF:zat->Op3->zat):Prop:=∀r o,zb5 r->r.out o.1=false->r.waits o.1=false->isOpB o=true->Step r (doF r o) 1
theorem za1{o:Op3}(h:isOpB o=true):1<=o.1/\o.1<=6:=by simp[isOpB]at h;omega
theorem mem_putL{l:List Int}{n x:Int}(h:x∈zft l n):x=n\/x∈l:=by
 induction l with
 | nil=>simp[zft]at h;exact .inl h
 | cons y r ih =>
   unfold zft at h;split at h
   ·exact .inr h
   ·split at h
    ·rcases List.mem_cons.1 h with h | h
     ·exact .inl h
     ·exact .inr h
    ·rcases List.mem_cons.1 h with h | h
     ·exact .inr (h ▸List.mem_cons_self)
     ·rcases ih h with h | h
      ·exact .inl h
      ·exact .inr (List.mem_cons_of_mem _ h)
theorem mem_putsO{l:List Op3}{x:Int}:∀ {o:List Int},x∈putsO o l->x∈o\/∃y∈l,y.1=x:=by
 induction l with
 | nil=>intro o h;exact .inl h
 | cons z r ih =>
   intro o h;rcases ih (o:=zft o z.1) h with h | ⟨y,hy,he⟩
   ·rcases mem_putL h with h | h
    ·exact .inr ⟨z,List.mem_cons_self,h.symm⟩
    ·exact .inl h
   ·exact .inr ⟨y,List.mem_cons_of_mem _ hy,he⟩
theorem mem_whom{s:za3}{t x:Int}(h:x∈zaN s t):(∃y∈s.1,y.1=x)\/∃y∈s.2,y.1=x:=by
 unfold zaN at h;split at h
 ·cases h
 ·unfold zyy at h;rcases mem_putsO h with h | ⟨y,hy,he⟩
  ·rcases mem_putsO h with h | ⟨y,hy,he⟩
   ·cases h
   ·exact .inl ⟨y,(List.mem_filter.1 hy).1,he⟩
  ·exact .inr ⟨y,(List.takeWhile_subset _) (List.mem_filter.1 hy).1,he⟩
theorem zrA{l:List Op3}{x:Op3}:∀ {s:za3 × List Op3},(x∈(grants s l).1.1->x∈s.1.1\/x∈l)/\(x∈(grants s l).1.2->x∈s.1.2\/x∈l)/\(x∈(grants s l).2->x∈s.2\/x∈l):=by
 induction l with
 | nil=>intro s;exact⟨.inl,.inl,.inl⟩
 | cons y r ih =>
   intro s;have h:=ih (s:=grant s y)
   have hg:(x∈(grant s y).1.1->x∈s.1.1\/x=y)/\(x∈(grant s y).1.2->x∈s.1.2\/x=y)/\(x∈(grant s y).2->x∈s.2\/x=y):=by
    unfold grant;split
    ·refine⟨fun hh=>?_,fun hh=>.inl hh,fun hh=>?_⟩
     ·rcases mem_holdL hh with h | h
      ·exact .inr h
      ·exact .inl h
     ·rcases List.mem_append.1 hh with h | h
      ·exact .inl h
      ·exact .inr (List.mem_singleton.1 h)
    ·refine⟨fun hh=>.inl hh,fun hh=>?_,fun hh=>.inl hh⟩;rcases List.mem_append.1 hh with h | h
     ·exact .inl h
     ·exact .inr (List.mem_singleton.1 h)
   refine⟨fun hh=>?_,fun hh=>?_,fun hh=>?_⟩
   ·rcases h.1 hh with h1 | h1
    ·rcases hg.1 h1 with h2 | h2
     ·exact .inl h2
     ·exact .inr (by simp[h2])
    ·exact .inr (by simp[h1])
   ·rcases h.2.1 hh with h1 | h1
    ·rcases hg.2.1 h1 with h2 | h2
     ·exact .inl h2
     ·exact .inr (by simp[h2])
    ·exact .inr (by simp[h1])
   ·rcases h.2.2 hh with h1 | h1
    ·rcases hg.2.2 h1 with h2 | h2
     ·exact .inl h2
     ·exact .inr (by simp[h2])
    ·exact .inr (by simp[h1])
theorem mem_free{s:za3}{t:Int}{x:Op3}:(x∈(freeT s t).1.1->(x∈s.1\/x∈s.2)/\x.1≠t)/\(x∈(freeT s t).1.2->x∈s.2/\x.1≠t)/\(x∈(freeT s t).2->x∈s.2/\x.1≠t):=by
 have h:=zrA (l:=withoutL s.2 t) (x:=x) (s:=((withoutL s.1 t,[]),[]));have hw:∀l:List Op3,x∈withoutL l t->x∈l/\x.1≠t:=fun l hl=>⟨(List.mem_filter.1 hl).1,by simpa using (List.mem_filter.1 hl).2⟩;unfold freeT;refine⟨fun hh=>?_,fun hh=>?_,fun hh=>?_⟩
 ·rcases h.1 hh with h1 | h1
  ·exact⟨.inl (hw _ h1).1,(hw _ h1).2⟩
  ·exact⟨.inr (hw _ h1).1,(hw _ h1).2⟩
 ·rcases h.2.1 hh with h1 | h1
  ·cases h1
  ·exact hw _ h1
 ·rcases h.2.2 hh with h1 | h1
  ·cases h1
  ·exact hw _ h1
theorem mem_ask{s:za3}{y x:Op3}:(x∈(askT s y).2.1->x∈s.1\/x=y)/\(x∈(askT s y).2.2->x∈s.2\/x=y):=by
 unfold askT;split
 ·exact⟨.inl,.inl⟩
 ·split
  ·exact⟨.inl,.inl⟩
  ·split
   ·exact⟨.inl,.inl⟩
   ·split
    ·refine⟨fun hh=>?_,.inl⟩;rcases mem_holdL hh with h | h
     ·exact .inr h
     ·exact .inl h
    ·refine⟨.inl,fun hh=>?_⟩;rcases List.mem_append.1 hh with h | h
     ·exact .inl h
     ·exact .inr (List.mem_singleton.1 h)
theorem zxM{doF:zat->Op3->zat}(hF:zky doF)(d:Int):∀(m:Nat) (r:zat),zb5 r->1<=d->d<=6->Step r (drainN doF d m r) 0:=by
 intro m
 induction m with
 | zero=>intro r h _ _;exact Step.refl h
 | succ m ih =>
   intro r h h1 h6;unfold drainN;split
   ·exact Step.refl h
   ·rename_i hwd;split
    ·exact Step.refl h
    ·rename_i o q hb;have ho:=h.ops d o (by rw[hb];exact List.mem_cons_self)
     have hout:r.out d=false:=by
      cases he:r.out d with
      | false=>rfl
      | true=>rw[h.gone d he]at hb;cases hb
     have hs:Step r { r with behind:=setF r.behind d q } 0:=by
      refine⟨⟨h.t1,h.t2,fun e he=>?_,fun e p hp=>?_,h.size,h.vict,h.wait⟩,fun e=>?_,fun _ he=>he,?_⟩
      ·show setF r.behind d q e=[];unfold setF;split
       ·rename_i hed;subst hed;rw[hout]at he;cases he
       ·exact h.gone e he
      ·have hp':p∈setF r.behind d q e:=hp;unfold setF at hp';split at hp'
       ·rename_i hed;subst hed;exact h.ops e p (by rw[hb];exact List.mem_cons_of_mem _ hp')
       ·exact h.ops e p hp'
      ·show(setF r.behind d q e).length<=_;unfold setF;split
       ·rename_i hed;subst hed;rw[hb];simp
       ·exact Nat.le_refl _
      ·have:=zoc h1 h6 hb;unfold pot;dsimp only;omega
     have hs1:Step r (doF { r with behind:=setF r.behind d q } o) 0:=by
      have h2:=hF { r with behind:=setF r.behind d q } o hs.good (by rw[ho.1];exact hout) (by rw[ho.1];simpa using hwd) ho.2;refine⟨h2.good,fun e=>Nat.le_trans (h2.less e) (hs.less e),fun e he=>h2.outs e he,?_⟩;have h3:=h2.pots;have h4:=zoc h1 h6 hb;have h5:pot { r with behind:=setF r.behind d q }+1=pot r:=by unfold pot;dsimp only;omega
      omega
     exact hs1.trans (ih _ hs1.good h1 h6) (Nat.le_refl _)
theorem zpQ{doF:zat->Op3->zat}(hF:zky doF)(x:Op3)(r:zat)(h:zb5 r):Step r (zbR doF r x) 0:=by
 unfold zbR;split
 ·rename_i hw;obtain⟨h1,h6⟩:=h.wait _ hw;have hc:=zcq h1 h6 hw
  have hs:Step r { r with waits:=setF r.waits x.1 false,told:=r.told++[r.op x.1] } 0:=by
   refine⟨⟨h.t1,h.t2,h.gone,h.ops,?_,h.vict,fun d hd=>?_⟩,fun _=>Nat.le_refl _,fun _ he=>he,?_⟩
   ·have:=h.size;dsimp only;rw[List.length_append,List.length_singleton];omega
   ·have hd':setF r.waits x.1 false d=true:=hd;unfold setF at hd';split at hd'
    ·cases hd'
    ·exact h.wait d hd'
   ·unfold pot;dsimp only;rw[List.length_append,List.length_singleton];omega
  exact hs.trans (zxM hF x.1 _ _ hs.good h1 h6) (Nat.le_refl _)
 ·exact Step.refl h
theorem zim{doF:zat->Op3->zat}(hF:zky doF)(l:List Op3):∀r:zat,zb5 r->Step r (l.foldl (zbR doF) r) 0:=by
 induction l with
 | nil=>intro r h;exact Step.refl h
 | cons x q ih =>intro r h;rw[List.foldl_cons];have h1:=zpQ hF x r h;exact h1.trans (ih _ h1.good) (Nat.le_refl _)
theorem zfy{r:zat}(h:zb5 r)(t:Int):zb5 { r with tab:=(freeT r.tab t).1 }:=by
 refine⟨fun x hx=>?_,fun x hx=>?_,h.gone,h.ops,?_,h.vict,h.wait⟩
 ·rcases(mem_free.1 hx).1 with h1 | h1
  ·exact h.t1 x h1
  ·exact h.t2 x h1
 ·exact h.t2 x (mem_free.2.1 hx).1
 ·have:=zoI r.tab t;have:=h.size;show(freeT r.tab t).1.1.length+(freeT r.tab t).1.2.length<=r.told.length+cnt6 r.waits;omega
theorem zwV{doF:zat->Op3->zat}(hF:zky doF)(t:Int)(r:zat)(h:zb5 r):Step r (zgk doF r t) 0:=by unfold zgk;have hs:Step r { r with tab:=(freeT r.tab t).1 } 0:=⟨zfy h t,fun _=>Nat.le_refl _,fun _ he=>he,Nat.le_refl _⟩;exact hs.trans (zim hF _ _ hs.good) (Nat.le_refl _)
theorem zgt{r:zat}{t:Int}(h:zb5 r)(h1:1<=t)(h6:t<=6)(ho:r.out t=false):zb5 { abort0 r t with tab:=(freeT r.tab t).1 }:=by
 have hc:(cnt6 fun d=>!setF r.out t true d)+1=cnt6 fun d=>!r.out d:=by
  rw[<-zcq (f:=fun d=>!r.out d) h1 h6 (by simp[ho])];congr 2
  funext d
  unfold setF;split <;> rfl
 refine⟨fun x hx=>?_,fun x hx=>?_,fun d hd=>?_,fun d o hd=>?_,?_,?_,fun d hd=>?_⟩
 ·obtain⟨hm,hne⟩:=mem_free.1 hx;show setF r.out t true x.1=false/\_;rw[zaa _ _ hne];rcases hm with hm | hm
  ·exact h.t1 x hm
  ·exact h.t2 x hm
 ·obtain⟨hm,hne⟩:=mem_free.2.1 hx;show setF r.out t true x.1=false/\_;rw[zaa _ _ hne];exact h.t2 x hm
 ·have hd':setF r.out t true d=true:=hd;show setF r.behind t [] d=[];unfold setF at hd' ⊢;split
  ·rfl
  ·rename_i hne;rw[if_neg hne]at hd';exact h.gone d hd'
 ·have hd':o∈setF r.behind t [] d:=hd;unfold setF at hd';split at hd'
  ·cases hd'
  ·exact h.ops d o hd'
 ·have h2:=zoI r.tab t;have h3:=h.size
  have h4:cnt6 r.waits<=cnt6 (setF r.waits t false)+1:=by
   cases hw:r.waits t with
   | true=>have:=zcq h1 h6 hw;omega
   | false =>
     have:cnt6 r.waits<=cnt6 (setF r.waits t false):=zpl fun d hd=>by
      unfold setF;split
      ·rename_i e;rw[e,hw]at hd;cases hd
      ·exact hd
     omega
  show(freeT r.tab t).1.1.length+(freeT r.tab t).1.2.length<=(r.told++[(t,4,0)]).length+cnt6 (setF r.waits t false);rw[List.length_append,List.length_singleton];omega
 ·have:=h.vict;show(r.vict++[t]).length+(cnt6 fun d=>!setF r.out t true d)<=6;rw[List.length_append,List.length_singleton];omega
 ·have hd':setF r.waits t false d=true:=hd;unfold setF at hd';split at hd'
  ·cases hd'
  ·exact h.wait d hd'
theorem zf4{doF:zat->Op3->zat}(hF:zky doF){t:Int}{r:zat}(h:zb5 r)(h1:1<=t)(h6:t<=6)(ho:r.out t=false):Step r (zco doF r t) 0/\(zco doF r t).out t=true:=by
 have hg:=zgt h h1 h6 ho
 have hc:(cnt6 fun d=>!setF r.out t true d)+1=cnt6 fun d=>!r.out d:=by
  rw[<-zcq (f:=fun d=>!r.out d) h1 h6 (by simp[ho])];congr 2
  funext d
  unfold setF;split <;> rfl
 have hs:Step r { abort0 r t with tab:=(freeT r.tab t).1 } 0:=by
  refine⟨hg,fun d=>?_,fun d hd=>?_,?_⟩
  ·show(setF r.behind t [] d).length<=_;unfold setF;split
   ·simp
   ·exact Nat.le_refl _
  ·show setF r.out t true d=true;unfold setF;split
   ·rfl
   ·exact hd
  ·have h2:sum6 (setF r.behind t [])<=sum6 r.behind:=zdz fun d=>by
    unfold setF;split
    ·simp
    ·exact Nat.le_refl _
   have h3:=zmf (f:=r.waits) (d:=t);unfold pot;unfold abort0;dsimp only;rw[List.length_append,List.length_singleton];omega
 have hk:=zim hF (freeT r.tab t).2 _ hg;refine⟨hs.trans hk (Nat.le_refl _),hk.outs t ?_⟩;show setF r.out t true t=true;exact setF_same _ _ _
theorem ziG{s:za3}{t v:Int}(h:zdQ s t=some v):v∈zaN s t/\t<v:=by unfold zdQ at h;exact⟨List.mem_of_find?_eq_some h,by simpa using List.find?_some h⟩
theorem zdU{r:zat}(h:zb5 r){t v:Int}(hv:v∈zaN r.tab t):r.out v=false/\1<=v/\v<=6:=by
 rcases mem_whom hv with⟨y,hy,rfl⟩ | ⟨y,hy,rfl⟩
 ·exact h.t1 y hy
 ·exact h.t2 y hy
theorem zxH{doF:zat->Op3->zat}(hF:zky doF)(t:Int):∀(n:Nat) (r:zat),zb5 r->Step r (woundN doF t n r) 0:=by
 intro n
 induction n with
 | zero=>intro r h;exact Step.refl h
 | succ n ih =>
   intro r h;unfold woundN;split
   ·exact Step.refl h
   ·rename_i v hv;obtain⟨ho,h1,h6⟩:=zdU h (ziG hv).1;have hs:=(zf4 hF h h1 h6 ho).1;exact hs.trans (ih _ hs.good) (Nat.le_refl _)
theorem zAX{doF:zat->Op3->zat}(hF:zky doF)(way t:Int)(r:zat)(h:zb5 r)(h1:1<=t)(h6:t<=6)(ho:r.out t=false):Step r (zlN way doF r t) 0:=by
 unfold zlN;split
 ·split
  ·exact(zf4 hF h h1 h6 ho).1
  ·exact Step.refl h
 ·split
  ·split
   ·exact Step.refl h
   ·split
    ·exact(zf4 hF h h1 h6 ho).1
    ·exact Step.refl h
  ·exact zxH hF t 7 r h
theorem zA1{doF:zat->Op3->zat}(hF:zky doF)(way:Int):zky (doW way doF):=by
 intro r o h ho hnw hop;obtain⟨h1,h6⟩:=za1 hop;unfold doW;split
 ·have hs:Step r { r with told:=r.told++[o] } 1:=by
   refine⟨⟨h.t1,h.t2,h.gone,h.ops,?_,h.vict,h.wait⟩,fun _=>Nat.le_refl _,fun _ he=>he,?_⟩
   ·have:=h.size;dsimp only;rw[List.length_append];omega
   ·unfold pot;dsimp only;rw[List.length_append,List.length_singleton];omega
  exact hs.trans (zwV hF o.1 _ hs.good) (Nat.le_refl _)
 ·have hsum:=zuG r.tab (o.1,o.2.2,o.2.1)
  have hm1:∀x∈(askT r.tab (o.1,o.2.2,o.2.1)).2.1,r.out x.1=false/\1<=x.1/\x.1<=6:=fun x hx=>by
   rcases mem_ask.1 hx with h2 | h2
   ·exact h.t1 x h2
   ·rw[h2];exact⟨ho,h1,h6⟩
  have hm2:∀x∈(askT r.tab (o.1,o.2.2,o.2.1)).2.2,r.out x.1=false/\1<=x.1/\x.1<=6:=fun x hx=>by
   rcases mem_ask.2 hx with h2 | h2
   ·exact h.t2 x h2
   ·rw[h2];exact⟨ho,h1,h6⟩
  split
  ·refine⟨⟨hm1,hm2,h.gone,h.ops,?_,h.vict,h.wait⟩,fun _=>Nat.le_refl _,fun _ he=>he,?_⟩
   ·have:=h.size;dsimp only at hsum ⊢;rw[List.length_append,List.length_singleton];omega
   ·unfold pot;dsimp only;rw[List.length_append,List.length_singleton];omega
  ·have hcw:cnt6 (setF r.waits o.1 true)=cnt6 r.waits+1:=by
    have h2:=zcq (f:=setF r.waits o.1 true) h1 h6 (setF_same _ _ _)
    have h3:setF (setF r.waits o.1 true) o.1 false=r.waits:=by
     funext d
     unfold setF;split
     ·rename_i e;rw[e,hnw]
     ·rfl
    rw[h3]at h2;omega
   have hw:zb5 (zc4 r o):=by
    refine⟨hm1,hm2,h.gone,h.ops,?_,h.vict,fun d hd=>?_⟩
    ·have h2:=h.size;unfold zc4;dsimp only at hsum ⊢;omega
    ·have hd':setF r.waits o.1 true d=true:=hd;unfold setF at hd';split at hd'
     ·rename_i e;rw[e];exact⟨h1,h6⟩
     ·exact h.wait d hd'
   have hs:Step r (zc4 r o) 1:=by refine⟨hw,fun _=>Nat.le_refl _,fun _ he=>he,?_⟩;unfold pot zc4;dsimp only;omega
   exact hs.trans (zAX hF way o.1 _ hw h1 h6 ho) (Nat.le_refl _)
theorem zhR(way:Int):∀n,zky (doN way n):=by
 intro n
 induction n with
 | zero=>intro r o h _ _ _;exact(Step.refl h).mono (by omega)
 | succ n ih=>exact zA1 ih way
theorem zAm(way:Int)(r:zat)(o:Op3)(h:zb5 r)(hop:isOpB o=true):zb5 (zc5 way r o)/\pot (zc5 way r o)<=pot r+1:=by
 obtain⟨h1,h6⟩:=za1 hop;unfold zc5;split
 ·exact⟨h,by omega⟩
 ·rename_i ho;have ho':r.out o.1=false:=by simpa using ho
  split
  ·refine⟨⟨h.t1,h.t2,fun d hd=>?_,fun d p hp=>?_,h.size,h.vict,h.wait⟩,?_⟩
   ·show setF r.behind o.1 _ d=[];have hd':r.out d=true:=hd;rw[zaa _ _ (fun e=>by rw[e,ho']at hd';cases hd')];exact h.gone d hd
   ·have hp':p∈setF r.behind o.1 (r.behind o.1++[o]) d:=hp;unfold setF at hp';split at hp'
    ·rename_i e;subst e;rcases List.mem_append.1 hp' with hp' | hp'
     ·exact h.ops _ p hp'
     ·rw[List.mem_singleton.1 hp'];exact⟨rfl,hop⟩
    ·exact h.ops d p hp'
   ·have:=zpq (f:=r.behind) o h1 h6;unfold pot;dsimp only;omega
  ·rename_i hw;have hs:=zhR way 41 r o h ho' (by simpa using hw) hop;exact⟨hs.good,hs.pots⟩
theorem zf7(way:Int)(l:List Op3)(hop:∀o∈l,isOpB o=true):∀k,k<=l.length->zb5 (zaI way (l.take k))/\pot (zaI way (l.take k))<=k+6:=by
 intro k
 induction k with
 | zero=>intro _;exact⟨good0,show pot zvR<=0+6 by decide⟩
 | succ k ih =>
   intro hk;have h1:=ih (by omega);have e:zaI way (l.take (k+1))=zc5 way (zaI way (l.take k)) l[k]:=by unfold zaI;rw[List.take_succ_eq_append_getElem (by omega),List.foldl_append];rfl
   have h2:=zAm way _ l[k] h1.1 (hop _ (List.getElem_mem _));rw[e];exact⟨h2.1,by omega⟩
end Go.Proofs.YthlhgiihngcobaaGreatDoor
namespace Go.Proofs.YthlhgiihngcobaaGreatDoor
open Go.RowKit
def zbd(l:List Op3)(way:Int):(List Op3 × List Int) × Int :=if(chk l).2≠0 then(([],[]),(chk l).2)else if way<0\/2<way then(([],[]),1)else(((zaI way l).told,(zaI way l).vict),0)
def zAf:Prop:=∀(l:List Op3) (v:Value) (way:Int) (w:World),zai w v l->Calls Tryz.prog 30 #[v,.int .i64 way] w fun e w'=>∃v1 v2,e=.returned (.tuple #[v1,v2,zeH (zbd l way).2])/\zai w' v1 (zbd l way).1.1/\zaf w' v2 (zbd l way).1.2/\Below w.heap.size w w'
theorem zpv{l:List Op3}(h:(chk l).2=0):∀o∈l,isOpB o=true:=chk_ops h
theorem zov(l:List Op3)(way:Int):(zbd l way).1.1.length<=46/\(zbd l way).1.2.length<=6:=by
 unfold zbd;split
 ·exact⟨by simp,by simp⟩
 ·rename_i hc;have hc':(chk l).2=0:=by simpa using hc
  split
  ·exact⟨by simp,by simp⟩
  ·have h1:=zf7 way l (zpv hc') l.length (Nat.le_refl _);have h2:=zaQ hc';rw[List.take_length]at h1;have h3:=h1.1.vict;have h4:=h1.2;unfold pot at h4;exact⟨by show(zaI way l).told.length<=46;omega,by show(zaI way l).vict.length<=6;omega⟩
end Go.Proofs.YthlhgiihngcobaaGreatDoor
