/-
  PROVED HERE: slices.Values over a row of whole numbers hands each to the loop's body, in order; what each line that asks is answered by, chapter by chapter.
  Conditions: none but those that each theorem's own premises say.
-/
import Derived.Test.YthlhgiihngcobaaGreatDoorMgaj
import Derived.Test.YthlhgiihngcobaaGreatDoorMgag
import Derived.Test.YthlhgiihngcobaaGreatDoorMgbw
import Derived.Test.YthlhgiihngcobaaGreatDoorMgbd
import Derived.RangeFuncNested
import Derived.RangeFuncBox
import Derived.RangeFuncBound
import Derived.RangeFuncCalls
import Derived.RangeFuncLeaves
import Derived.Shelf.Abstract
import Derived.Shelf.RegionOpen
import Derived.WalkKit
import Derived.OwnWalkIn
import Derived.TacticsInMore
import Derived.LoopNIn
import Derived.LoopIn
import Derived.Maps.AppendAt
import Derived.Test.YthlhgiihngcobaaGreatDoorMgbb
import Derived.Test.YthlhgiihngcobaaGreatDoorMgbc
import Derived.Test.YthlhgiihngcobaaGreatDoorMgbi
import Derived.Test.YthlhgiihngcobaaGreatDoorMgbo
import Derived.Test.YthlhgiihngcobaaGreatDoorMgbv
import Derived.Test.YthlhgiihngcobaaGreatDoorMgas
import Derived.Test.YthlhgiihngcobaaGreatDoorMgai
import Derived.Test.YthlhgiihngcobaaGreatDoorMgbs
import Derived.Laws.IdiomCopy
import Derived.Deep.Cut
import Derived.Deep.Upon
import Derived.Test.YthlhgiihngcobaaGreatDoorMgbt
import Derived.Test.YthlhgiihngcobaaGreatDoorMgap
import Derived.Deep.RegionHeld3
import Derived.Deep.QuietTactic
import Derived.BigQuiet
import Derived.WalkSmall
import Derived.Test.YthlhgiihngcobaaGreatDoorMgat
import Derived.Test.YthlhgiihngcobaaGreatDoorMgam
import Derived.Laws.Rows
import Derived.OwnWalk
import Derived.Laws.CopyOwn
import Derived.Test.YthlhgiihngcobaaGreatDoorMgav
import Derived.Test.YthlhgiihngcobaaGreatDoorMgah
import Derived.Test.YthlhgiihngcobaaGreatDoorMgaw
import Derived.Maps.OwnSet
import Derived.Maps.RangeWalk
import Derived.WalkSpells
import Derived.Handy
import Derived.Deep.RegionLaw
import Derived.Laws.AppendOwn
import Derived.ArgAppend
import Derived.Lib.SliceRun
import Derived.Laws.Small
import Derived.Laws.OwnMore
import Derived.Test.YthlhgiihngcobaaGreatDoorMgak
import Derived.Laws.EntriesVeiled
import Derived.Test.YthlhgiihngcobaaGreatDoorMgbe
import Derived.Shelf.GgClosure.Gives
set_option maxHeartbeats 32000000
set_option maxRecDepth 100000
namespace Go.Proofs.YthlhgiihngcobaaGreatDoor
open Go.RowKit Go.Shelf
attribute [local go_sem] Oper.semAt_some
end Go.Proofs.YthlhgiihngcobaaGreatDoor
namespace Go.Proofs.YthlhgiihngcobaaGreatDoor
open Go.RowKit
def zjj(w:World)(x y:Value)(t:List UInt8):Prop:=(x=zay t/\y=.nilIface)\/(∃s n,x=.string s/\y=.iface 80 (.int .i64 n)/\(1<=n/\n<=8)/\t=zdp n)\/(∃s a,x=.string s/\y=.iface 337 (.pointer (some a))/\w.cell? a=some (.string ⟨#[98,97,100]⟩)/\t=zou)
def zkq(F:FuncId)(vs:Array Value)(w:World)(t:List UInt8):Prop:=Calls Tryz.prog F vs w fun e w'=>∃x y,e=.returned (.tuple #[x,y])/\zjj w' x y t/\Below w.heap.size w w'
def Two(F1:FuncId)(vs:Array Value)(F2:FuncId)(w:World)(t:List UInt8):Prop:=Calls Tryz.prog F1 vs w fun e w1=>∃v1 v2,e=.returned (.tuple #[v1,v2])/\zkq F2 #[v1,v2] w1 t/\Below w.heap.size w w1
def zk9(F1:FuncId)(vs:Array Value)(F2:FuncId)(w:World)(t:List UInt8):Prop:=Calls Tryz.prog F1 vs w fun e w1=>∃v1 v2 v3,e=.returned (.tuple #[v1,v2,v3])/\zkq F2 #[v1,v2,v3] w1 t/\Below w.heap.size w w1
theorem chkFrom_code:∀(l pre:List Op3),(chkFrom pre l).2=0\/(chkFrom pre l).2=1\/(chkFrom pre l).2=6:=by
 intro l
 induction l with
 | nil=>intro pre;exact .inl rfl
 | cons a r ih =>
   intro pre;cases h:isOpB a with
   | false=>rw[zci pre r h];exact .inr (.inl rfl)
   | true =>
     cases h2:zao pre a.1 with
     | true=>rw[zcj r h h2];exact .inr (.inr rfl)
     | false=>rw[zdt r h h2];exact ih _
theorem zmd(l:List Op3)(h:(chk l).2≠0):1<=(chk l).2/\(chk l).2<=8:=by
 unfold chk at h ⊢;split
 ·exact⟨by decide,by decide⟩
 ·rename_i h1;rw[if_neg h1]at h;rcases chkFrom_code l []with e | e | e
  ·exact absurd e h
  ·rw[e];exact⟨by decide,by decide⟩
  ·rw[e];exact⟨by decide,by decide⟩
theorem try_mem(ds:List Int)(p:List Int->Bool):∀(f:Nat) (b r:List Int),tryO ds p f b=some r->∀x∈r,x∈b\/x∈ds:=by
 intro f
 induction f with
 | zero =>
   intro b r h x hx;unfold tryO at h;split at h
   ·rw[<-Option.some.inj h]at hx;exact .inl hx
   ·cases h
 | succ f ih =>
   intro b r h x hx;unfold tryO at h;obtain⟨t,htd,ht⟩:=List.exists_of_findSome?_eq_some h;split at ht
   ·cases ht
   ·rcases ih _ _ ht x hx with h1 | h1
    ·rcases List.mem_append.1 h1 with h2 | h2
     ·exact .inl h2
     ·rw[List.mem_singleton.1 h2];exact .inr htd
    ·exact .inr h1
theorem zkv{h:List Op3}{o:List Int}(hs:zdq (doneL h)=some o):∀d∈o,1<=d/\d<=6:=fun d hd=>by
 rcases try_mem _ _ _ _ _ hs d hd with h1 | h1
 ·cases h1
 ·have:=zaz.1 h1;exact⟨this.1,this.2.1⟩
theorem zn4{o:List Int}{v:Value}{w:World}(h:zak w v o)(hl:o.length<=1000)(hx:∀d∈o,0<=d/\d<10000000)(hp:zde w):zkq 21 #[v,.nilIface] w (zeP (o.map Lib.itoa)) :=(zeU zmY zof o v .nilIface w h hl hx hp).mono fun _ _ ⟨he,hb⟩=>⟨_,_,he,.inl ⟨rfl,rfl⟩,hb⟩
theorem zi9{o:List Int}{v:Value}{w:World}(h:zak w v o)(hl:o.length<=6)(hx:∀d∈o,1<=d/\d<=6)(hp:zde w):zkq 21 #[v,.nilIface] w (zi8 o):=by rw[zjw hx];exact zn4 h (by omega) (fun d hd=>by have:=hx d hd;omega) hp
theorem zjQ(n:Int)(w:World)(hn:1<=n/\n<=8)(hp:zde w):zkq 21 #[.slice none 0 0,.iface 80 (.int .i64 n)] w (zdp n) :=(zeU zmY zof [] (.slice none 0 0) (.iface 80 (.int .i64 n)) w (zfc w) (by simp) (fun d hd=>by cases hd) hp).mono fun _ _ ⟨he,hb⟩=>⟨_,_,he,.inr (.inl ⟨_,n,rfl,rfl,hn,rfl⟩),hb⟩
theorem zjM{h:List Op3}{v:Value}{w:World}(hv:zal w v h)(hc:(chk h).2=0)(hp:zde w):Two 22 #[v] 21 w (ze2 (za4 (doneL h)) 8):=by
 refine(zmL h v w hv hc).mono ?_;rintro e w1 ⟨(⟨o,v',hs,rfl,hI⟩ | ⟨hs,rfl⟩),hb⟩
 ·have h1:=(zer (zfP hc) hs).1;exact⟨_,_,rfl,by rw[hs];exact zi9 hI (zdU h1) (fun d hd=>ziU h1 hd) (zbF hp hb),hb⟩
 ·exact⟨_,_,rfl,by rw[hs];exact zjQ 8 w1 (by decide) (zbF hp hb),hb⟩
theorem zk7{h:List Op3}{v:Value}{w:World}(hv:zal w v h)(hc:(chk h).2=0)(hp:zde w):Two 23 #[v] 21 w (ze2 (zdq (doneL h)) 5):=by
 refine(zii h v w hv hc).mono ?_;rintro e w1 ⟨(⟨o,v',hs,rfl,hI⟩ | ⟨hs,rfl⟩),hb⟩
 ·exact⟨_,_,rfl,by rw[hs];exact zi9 hI (zhF hs) (zkv hs) (zbF hp hb),hb⟩
 ·exact⟨_,_,rfl,by rw[hs];exact zjQ 5 w1 (by decide) (zbF hp hb),hb⟩
theorem zkT{h:List Op3}{ad:Option Addr}{cap:Nat}{w:World}(hv:zal w (.slice ad h.length cap) h)(hcap:h.length<=cap)(hc:(chk h).2=0):Two 25 #[.slice ad h.length cap] 24 w (zfd [(zlN,zi6 h),(zl7,ziR h),(zk8,ziG h),(zlh,zg8 h)]):=by
 refine(znK h ad cap w hv hcap).mono ?_;rintro e w1 ⟨rfl,hb⟩;refine⟨_,_,rfl,?_,hb⟩;rw[hc];refine(zge zmY (zeR h) .nilIface w1).mono ?_;rintro e w2 ⟨rfl,hb2⟩;refine⟨_,_,rfl,.inl ⟨?_,rfl⟩,hb2⟩;have e1:zeR h=(zi6 h,ziR h,ziG h,zg8 h):=by unfold zeR;rw[if_neg (by simpa using hc)]
 rw[e1,zi0 (by simp[zlN,zl7,zk8,zlh])];rfl
end Go.Proofs.YthlhgiihngcobaaGreatDoor
