/-
  PROVED HERE: nothing; plain facts, with no word of the program; plain facts, with no word of the program; graph.named gives the deals that right edges name.
  Conditions: none but those that each theorem's own premises say.
-/
import Derived.Test.YthlhgiihngcobaaGreatDoorMgai
import Derived.Test.YthlhgiihngcobaaGreatDoorMgah
import Derived.Test.YthlhgiihngcobaaGreatDoorMgaj
import Derived.Test.YthlhgiihngcobaaGreatDoorMgak
import Derived.Test.YthlhgiihngcobaaGreatDoorMgaf
import Derived.Test.YthlhgiihngcobaaGreatDoorMgal
set_option maxHeartbeats 32000000
set_option maxRecDepth 100000
namespace Go.Proofs.YthlhgiihngcobaaGreatDoor
def zt9(d:List Op3)(o:List Int):Bool:=zcQ d (alongL d o)
def ziR(d:List Op3):Option (List Int):=tryO (zas d) (zt9 d) (zas d).length []
end Go.Proofs.YthlhgiihngcobaaGreatDoor
namespace Go.Proofs.YthlhgiihngcobaaGreatDoor
def zfk:List UInt8:=[104,105,115,116,111,114,121,32]
def zoV:List UInt8:=[111,114,100,101,114]
def zx5:List UInt8:=[118,105,101,119]
def zpN:List UInt8:=[102,97,99,101,115]
def zBN:List UInt8:=[111,107]
def zvU(o:List Int):List UInt8:=o.foldl (fun t d=>(if t=[]then t else t++[32])++[zAE d]) []
def zr4(o:List Int):List UInt8:=if zvU o=[]then[45]else zvU o
theorem zvS(o:List Int)(d:Int):zvU (o++[d])=(if zvU o=[]then zvU o else zvU o++[32])++[zAE d]:=by unfold zvU;rw[List.foldl_append];rfl
end Go.Proofs.YthlhgiihngcobaaGreatDoor
namespace Go.Proofs.YthlhgiihngcobaaGreatDoor
def zgM(a b:Op3):Bool:=a.1 != b.1 && (a.2.1 == b.2.1 && (a.2.2 == 2 || b.2.2 == 2))
def zak(x:Op3):Bool:=decide (1<=x.1/\x.1<=6) && (decide (1<=x.2.1/\x.2.1<=6) && (x.2.2 == 1 || x.2.2 == 2))
def zbC(l:List Op3)(x:Op3):Bool:=l.all fun y=>!zgM y x
def waitsB(l:List Op3)(t:Int):Bool:=l.any fun y=>y.1 == t
def zvW(l:List Op3)(x:Op3):Bool:=l.any fun y=>y.1 == x.1 && (y.2.1 == x.2.1 && decide (x.2.2<=y.2.2))
def zb0(y x:Op3):Bool:=y.1 == x.1 && y.2.1 == x.2.1
def holdL:List Op3->Op3->List Op3
 | [],x=>[x]
 | y::r,x=>if zb0 y x=true then x::r else y::holdL r x
def withoutL(l:List Op3)(t:Int):List Op3:=l.filter fun y=>y.1 != t
abbrev za3:=List Op3 × List Op3
def askT(s:za3)(x:Op3):(Bool × Int) × za3 :=
 if zak x=false then((false,1),s)else if waitsB s.2 x.1=true then((false,7),s)else if zvW s.1 x=true then((true,0),s)
 else if(zbC s.1 x && zbC s.2 x)=true then((true,0),(holdL s.1 x,s.2))else((false,0),(s.1,s.2++[x]))
def grant(s:za3 × List Op3)(x:Op3):za3 × List Op3 :=if(zbC s.1.1 x && zbC s.1.2 x)=true then((holdL s.1.1 x,s.1.2),s.2++[x])else((s.1.1,s.1.2++[x]),s.2)
def grants(s:za3 × List Op3)(l:List Op3):za3 × List Op3:=l.foldl grant s
def freeT(s:za3)(t:Int):za3 × List Op3:=grants ((withoutL s.1 t,[]),[]) (withoutL s.2 t)
def putsO(o:List Int)(l:List Op3):List Int:=l.foldl (fun o y=>zft o y.1) o
def zAQ(l:List Op3)(x:Op3):List Op3:=l.filter fun y=>zgM y x
def aheadL(l:List Op3)(t:Int):List Op3:=l.takeWhile fun y=>y.1 != t
def zyy(s:za3)(x:Op3):List Int:=putsO (putsO [] (zAQ s.1 x)) (zAQ (aheadL s.2 x.1) x)
theorem zu9(a b:Op3):zgM a b=zgM b a:=by unfold zgM;rw[show(a.1 != b.1)=(b.1 != a.1)by simp[bne,Bool.beq_comm],show(a.2.1 == b.2.1)=(b.2.1 == a.2.1)by exact Bool.beq_comm,Bool.or_comm]
theorem zjf{l:List Op3}{x:Op3}:zbC l x=true↔∀y∈l,zgM y x=false:=by simp[zbC]
theorem zeM{l:List Op3}{x:Op3}(h:zbC l x=false):∃y∈l,zgM y x=true:=by simpa[zbC]using h
theorem mem_holdL{l:List Op3}{x z:Op3}(h:z∈holdL l x):z=x\/z∈l:=by
 induction l with
 | nil=>simp[holdL]at h;exact .inl h
 | cons y r ih =>
   unfold holdL at h;split at h
   ·rcases List.mem_cons.1 h with h | h
    ·exact .inl h
    ·exact .inr (List.mem_cons_of_mem _ h)
   ·rcases List.mem_cons.1 h with h | h
    ·exact .inr (h ▸List.mem_cons_self)
    ·rcases ih h with h | h
     ·exact .inl h
     ·exact .inr (List.mem_cons_of_mem _ h)
theorem ztR(l:List Op3)(x:Op3):x∈holdL l x:=by
 induction l with
 | nil=>simp[holdL]
 | cons y r ih =>
   unfold holdL;split
   ·exact List.mem_cons_self
   ·exact List.mem_cons_of_mem _ ih
theorem zrN{l:List Op3}{x z:Op3}(h:z∈l)(hne:zb0 z x=false):z∈holdL l x:=by
 induction l with
 | nil=>cases h
 | cons y r ih =>
   unfold holdL;rcases List.mem_cons.1 h with h | h
   ·subst h;rw[if_neg (by rw[hne];decide)];exact List.mem_cons_self
   ·split
    ·exact List.mem_cons_of_mem _ h
    ·exact List.mem_cons_of_mem _ (ih h)
theorem zix(l:List Op3)(x:Op3):(holdL l x).length<=l.length+1:=by
 induction l with
 | nil=>simp[holdL]
 | cons y r ih =>
   unfold holdL;split
   ·simp
   ·simp;omega
theorem zcd{y x:Op3}:zb0 y x=true↔y.1=x.1/\y.2.1=x.2.1:=by simp[zb0]
theorem zrg{y x:Op3}(h:zb0 y x=true):zb0 x y=true:=by rw[zcd]at h ⊢;exact⟨h.1.symm,h.2.symm⟩
def zlP(a b:Op3):Prop:=zgM a b=false/\zb0 a b=false
theorem zlP.symm{a b:Op3}(h:zlP a b):zlP b a:=by
 refine⟨by rw[zu9];exact h.1,?_⟩;cases hh:zb0 b a with
 | false=>rfl
 | true=>exact absurd (zrg hh) (by rw[h.2];decide)
theorem zio{l:List Op3}{x:Op3}(h:l.Pairwise zlP)(hc:∀y∈l,zgM y x=false):(holdL l x).Pairwise zlP:=by
 induction l with
 | nil=>simp[holdL]
 | cons y r ih =>
   rw[List.pairwise_cons]at h;unfold holdL;split
   ·rename_i hy;refine List.pairwise_cons.2 ⟨fun z hz=>zlP.symm ⟨hc z (List.mem_cons_of_mem _ hz),?_⟩,h.2⟩;cases hh:zb0 z x with
    | false=>rfl
    | true =>have h1:=zcd.1 hh;have h2:=zcd.1 hy;have h3:=(h.1 z hz).2;rw[show zb0 y z=true by rw[zcd];exact⟨h2.1.trans h1.1.symm,h2.2.trans h1.2.symm⟩]at h3;cases h3
   ·rename_i hy;refine List.pairwise_cons.2 ⟨fun z hz=>?_,ih h.2 fun y hy=>hc y (List.mem_cons_of_mem _ hy)⟩;rcases mem_holdL hz with rfl | hz
    ·exact⟨hc y List.mem_cons_self,by simpa using hy⟩
    ·exact h.1 z hz
theorem zmr{l:List Op3}{x z y:Op3}(hy:y∈l)(ho:zgM y z=true)(hm:∀u∈l,zb0 u x=true->u.2.2<=x.2.2)(hx:x.2.2<=2):∃u∈holdL l x,zgM u z=true:=by
 cases hh:zb0 y x with
 | false=>exact⟨y,zrN hy hh,ho⟩
 | true =>
   refine⟨x,ztR l x,?_⟩;obtain⟨h1,h2⟩:=zcd.1 hh;have h3:=hm y hy hh;unfold zgM at ho ⊢;simp only[Bool.and_eq_true,bne_iff_ne,ne_eq,beq_iff_eq,Bool.or_eq_true]at ho ⊢;refine⟨by rw[<-h1];exact ho.1,by rw[<-h2];exact ho.2.1,?_⟩;rcases ho.2.2 with h | h
   ·exact .inl (by omega)
   ·exact .inr h
structure zgu(s:za3):Prop where
 held:s.1.Pairwise zlP
 deals:s.2.Pairwise fun a b=>a.1≠b.1
 bars:∀k x,s.2[k]? = some x->(∃y∈s.1,zgM y x=true)\/∃y∈s.2.take k,zgM y x=true
 more:∀x∈s.2,∀y∈s.1,zb0 y x=true->y.2.2<x.2.2
 locks:(∀x∈s.1,zak x=true)/\∀x∈s.2,zak x=true
theorem zsv:zgu ([],[]):=⟨List.Pairwise.nil,List.Pairwise.nil,fun k x h=>by simp at h,fun x h=>(by cases h),fun x h=>(by cases h),fun x h=>(by cases h)⟩
theorem zfi{x:Op3}(h:zak x=true):1<=x.2.2/\x.2.2<=2:=by simp[zak]at h;rcases h.2.2 with e | e <;> rw[e] <;> decide
theorem zwg{l:List Op3}{x:Op3}(h:zvW l x=false):∀y∈l,zb0 y x=true->y.2.2<x.2.2:=by intro y hy hl;obtain⟨h1,h2⟩:=zcd.1 hl;simp[zvW]at h;have:=h y.1 y.2.1 y.2.2 hy h1 h2;omega
theorem zq8{l:List Op3}{t:Int}(h:waitsB l t=false):∀y∈l,y.1≠t:=by intro y hy e;simp[waitsB]at h;exact h y.1 y.2.1 y.2.2 hy e
theorem zsJ{s:za3}(h:zgu s)(x:Op3):zgu (askT s x).2:=by
 unfold askT;split
 ·exact h
 ·rename_i hx;have hx':zak x=true:=by simpa using hx
  split
  ·exact h
  ·rename_i hw;have hw':waitsB s.2 x.1=false:=by simpa using hw
   have hwn:=zq8 hw';split
   ·exact h
   ·rename_i hh;have hm:=zwg (show zvW s.1 x=false by simpa using hh);split
    ·rename_i hc;simp only[Bool.and_eq_true]at hc;refine⟨zio h.held (zjf.1 hc.1),h.deals,fun k z hz=>?_,fun z hz y hy hl=>?_,fun z hz=>?_,h.locks.2⟩
     ·rcases h.bars k z hz with⟨y,hy,ho⟩ | hb
      ·exact .inl (zmr hy ho (fun u hu hl=>Int.le_of_lt (hm u hu hl)) (zfi hx').2)
      ·exact .inr hb
     ·rcases mem_holdL hy with rfl | hy
      ·exact absurd (zcd.1 hl).1.symm (hwn z hz)
      ·exact h.more z hz y hy hl
     ·rcases mem_holdL hz with rfl | hz
      ·exact hx'
      ·exact h.locks.1 z hz
    ·rename_i hc;refine⟨h.held,?_,fun k z hz=>?_,fun z hz y hy hl=>?_,h.locks.1,fun z hz=>?_⟩
     ·refine List.pairwise_append.2 ⟨h.deals,List.pairwise_singleton _ _,fun a ha b hb=>?_⟩;rw[List.mem_singleton.1 hb];exact hwn a ha
     ·simp only at hz ⊢;rcases Nat.lt_or_ge k s.2.length with hk | hk
      ·rw[List.getElem?_append_left hk]at hz;rw[List.take_append_of_le_length (Nat.le_of_lt hk)];exact h.bars k z hz
      ·rw[List.getElem?_append_right hk]at hz
       have hk0:k-s.2.length=0:=by
        rcases Nat.eq_zero_or_pos (k-s.2.length)with h0 | h0
        ·exact h0
        ·rw[List.getElem?_eq_none (by simp;omega)]at hz;cases hz
       rw[hk0]at hz;simp at hz;subst hz;have hkl:k=s.2.length:=by omega
       subst hkl;rw[List.take_left']
       ·simp only[Bool.and_eq_true,not_and,Bool.not_eq_true]at hc;cases hcc:zbC s.1 x with
        | false=>exact .inl (zeM hcc)
        | true=>exact .inr (zeM (hc hcc))
       ·rfl
     ·rcases List.mem_append.1 hz with hz | hz
      ·exact h.more z hz y hy hl
      ·rw[List.mem_singleton.1 hz]at hl ⊢;exact hm y hy hl
     ·rcases List.mem_append.1 hz with hz | hz
      ·exact h.locks.2 z hz
      ·rw[List.mem_singleton.1 hz];exact hx'
structure zqY(s:za3)(rest:List Op3):Prop where
 held:s.1.Pairwise zlP
 deals:(s.2++rest).Pairwise fun a b=>a.1≠b.1
 bars:∀k x,s.2[k]? = some x->(∃y∈s.1,zgM y x=true)\/∃y∈s.2.take k,zgM y x=true
 more:∀x∈s.2++rest,∀y∈s.1,zb0 y x=true->y.2.2<x.2.2
 locks:(∀x∈s.1,zak x=true)/\∀x∈s.2++rest,zak x=true
theorem zw4{s:za3}{x:Op3}{rest o:List Op3}(h:zqY s (x::rest)):zqY (grant (s,o) x).1 rest:=by
 have hx:zak x=true:=h.locks.2 x (by simp);have hm:=h.more x (by simp);have hd:=List.pairwise_append.1 h.deals;have hdx:=List.pairwise_cons.1 hd.2.1;unfold grant;split
 ·rename_i hc;simp only[Bool.and_eq_true]at hc;refine⟨zio h.held (zjf.1 hc.1),?_,fun k z hz=>?_,fun z hz y hy hl=>?_,fun z hz=>?_,fun z hz=>h.locks.2 z ?_⟩
  ·exact List.pairwise_append.2 ⟨hd.1,hdx.2,fun a ha b hb=>hd.2.2 a ha b (List.mem_cons_of_mem _ hb)⟩
  ·rcases h.bars k z hz with⟨y,hy,ho⟩ | hb
   ·exact .inl (zmr hy ho (fun u hu hl=>Int.le_of_lt (hm u hu hl)) (zfi hx).2)
   ·exact .inr hb
  ·rcases mem_holdL hy with rfl | hy
   ·have he:=(zcd.1 hl).1;rcases List.mem_append.1 hz with hz | hz
    ·exact absurd he.symm (hd.2.2 z hz y (by simp))
    ·exact absurd he (hdx.1 z hz)
   ·exact h.more z (by rcases List.mem_append.1 hz with hz | hz <;> simp[hz]) y hy hl
  ·rcases mem_holdL hz with rfl | hz
   ·exact hx
   ·exact h.locks.1 z hz
  ·rcases List.mem_append.1 hz with hz | hz <;> simp[hz]
 ·rename_i hc;refine⟨h.held,by simpa using h.deals,fun k z hz=>?_,fun z hz=>h.more z (by simpa using hz),h.locks.1,fun z hz=>h.locks.2 z (by simpa using hz)⟩;simp only at hz ⊢;rcases Nat.lt_or_ge k s.2.length with hk | hk
  ·rw[List.getElem?_append_left hk]at hz;rw[List.take_append_of_le_length (Nat.le_of_lt hk)];exact h.bars k z hz
  ·rw[List.getElem?_append_right hk]at hz
   have hk0:k-s.2.length=0:=by
    rcases Nat.eq_zero_or_pos (k-s.2.length)with h0 | h0
    ·exact h0
    ·rw[List.getElem?_eq_none (by simp;omega)]at hz;cases hz
   rw[hk0]at hz;simp at hz;subst hz;have hkl:k=s.2.length:=by omega
   subst hkl;rw[List.take_left']
   ·simp only[Bool.and_eq_true,not_and,Bool.not_eq_true]at hc;cases hcc:zbC s.1 x with
    | false=>exact .inl (zeM hcc)
    | true=>exact .inr (zeM (hc hcc))
   ·rfl
theorem zy6:∀(rest:List Op3) (s:za3) (o:List Op3),zqY s rest->zqY (grants (s,o) rest).1 []:=by
 intro rest
 induction rest with
 | nil=>intro s o h;exact h
 | cons x r ih =>intro s o h;unfold grants;rw[List.foldl_cons];exact ih (grant (s,o) x).1 (grant (s,o) x).2 (zw4 h)
theorem zvu{s:za3}(h:zgu s)(t:Int):zgu (freeT s t).1:=by
 have h0:zqY (withoutL s.1 t,[]) (withoutL s.2 t):=by
  refine⟨h.held.filter _,by simpa[withoutL]using h.deals.filter _,fun k x hx=>by simp at hx,fun x hx y hy=>?_,fun x hx=>h.locks.1 x (List.mem_filter.1 hx).1,fun x hx=>h.locks.2 x ?_⟩
  ·exact h.more x (List.mem_filter.1 (by simpa using hx:x∈withoutL s.2 t)).1 y (List.mem_filter.1 hy).1
  ·exact(List.mem_filter.1 (by simpa using hx:x∈withoutL s.2 t)).1
 have h1:zqY (freeT s t).1 []:=zy6 _ _ [] h0;refine⟨h1.held,by simpa using h1.deals,h1.bars,fun x hx=>h1.more x (by simpa using hx),h1.locks.1,fun x hx=>h1.locks.2 x (by simpa using hx)⟩
theorem zjh(l:List Op3):∀s:za3 × List Op3,(grants s l).1.1.length<=s.1.1.length+l.length/\(grants s l).1.2.length<=s.1.2.length+l.length/\(grants s l).2.length<=s.2.length+l.length:=by
 induction l with
 | nil=>intro s;simp[grants]
 | cons x r ih =>
   intro s;have h:=ih (grant s x)
   have h2:(grant s x).1.1.length<=s.1.1.length+1/\(grant s x).1.2.length<=s.1.2.length+1/\(grant s x).2.length<=s.2.length+1:=by
    unfold grant;have:=zix s.1.1 x;split
    ·simp;omega
    ·simp
   unfold grants at h ⊢;rw[List.foldl_cons,List.length_cons];omega
theorem zuG(s:za3)(x:Op3):(askT s x).2.1.length+(askT s x).2.2.length<=s.1.length+s.2.length+1:=by
 unfold askT;have:=zix s.1 x;split
 ·simp
 ·split
  ·simp
  ·split
   ·simp
   ·split
    ·simp;omega
    ·simp;omega
theorem zrs(l:List Op3):∀s:za3 × List Op3,(grants s l).1.1.length+(grants s l).1.2.length<=s.1.1.length+s.1.2.length+l.length:=by
 induction l with
 | nil=>intro s;simp[grants]
 | cons x r ih =>
   intro s;have h:=ih (grant s x)
   have h2:(grant s x).1.1.length+(grant s x).1.2.length<=s.1.1.length+s.1.2.length+1:=by
    unfold grant;have:=zix s.1.1 x;split
    ·simp;omega
    ·simp;omega
   unfold grants at h ⊢;rw[List.foldl_cons,List.length_cons];omega
theorem zoI(s:za3)(t:Int):(freeT s t).1.1.length+(freeT s t).1.2.length<=s.1.length+s.2.length:=by have h:=zrs (withoutL s.2 t) ((withoutL s.1 t,[]),[]);have h1:(withoutL s.1 t).length<=s.1.length:=List.length_filter_le _ _;have h2:(withoutL s.2 t).length<=s.2.length:=List.length_filter_le _ _;unfold freeT;simp only[List.length_nil]at h;omega
end Go.Proofs.YthlhgiihngcobaaGreatDoor
namespace Go.Proofs.YthlhgiihngcobaaGreatDoor
open Go.RowKit
theorem zhf(t j:Nat):((t:Int) == (j:Int))=decide (j=t):=by rw[Bool.eq_iff_iff];simp;omega
theorem zlb(s:zbg)(t a j:Nat):zdn (zdn s t true) a true j=(s j || ((t:Int) == (j:Int) || (a:Int) == (j:Int))):=by
 rw[zhf,zhf];unfold zdn;by_cases h1:j=a
 ·simp[h1]
 ·by_cases h2:j=t <;> simp[h1,h2]
theorem named_any(l:List zab)(v:Value)(w:World)(hI:zaj w v l)(hd:∀e∈l,(1<=e.1/\e.1<=6)/\(1<=e.2/\e.2<=6))(hl:l.length<=60):Calls Tryz.prog 113 #[v] w fun e w'=>e=.returned (.agg #[.bool (namedS l 0),.bool (namedS l 1),.bool (namedS l 2),.bool (namedS l 3),.bool (namedS l 4),.bool (namedS l 5),.bool (namedS l 6)])/\Below w.heap.size w w':=by
 obtain⟨ad,b,off,cap,rfl,ha,-,hbB,hops⟩:=hI;have HO:Hid (∀W,Below w.heap.size w W->∀k,k<l.length->ad=some ⟨b,off,none⟩/\W.cell? ⟨b,off+k*2,none⟩=some (.int .i64 (l.getD k (0,0)).1)/\W.cell? ⟨b,off+k*2+1,none⟩=some (.int .i64 (l.getD k (0,0)).2)):=fun W hW k hk=>⟨ha (by omega),(hops.below hW hbB) k hk⟩;have HD:Hid (∀e∈l,(1<=e.1/\e.1<=6)/\(1<=e.2/\e.2<=6)):=hd;clear ha hbB hops hd;go_enter Tryz.func113,Tryz.ntmps113;go_wp2
 go_loopw [8] (fun v8 wr=>∃k:Nat,k<=l.length/\v8=.int .i64 k/\Below w.heap.size w wr/\zao wr w.heap.size 7 (fun _=>false)/\zao wr (w.heap.size+1) 7 (namedS (l.take k))) (fun v8 _=>l.length-(intOf v8).toNat)
 case atStart =>refine⟨0,Nat.zero_le _,rfl,((Below.refl _ w).alloc (Nat.le_refl _) _).alloc (by simp) _,(zcu w (fun _=>false) _).alloc _,?_⟩;have:=zcu (w.alloc (Obj.cells #[Value.bool false,Value.bool false,Value.bool false,Value.bool false,Value.bool false,Value.bool false,Value.bool false] 194)) (fun _=>false) 194;rw[List.take_zero];exact(by simpa using this:zao _ (w.heap.size+1) 7 (fun _=>false))
 case round =>
  obtain⟨k,hk,rfl,hbel,hz,hs⟩:=hrel;have hB1:=hs.lt (by omega);have HZ:Hid (zao wr w.heap.size 7 (fun _=>false)):=hz;have HS:Hid (zao wr (w.heap.size+1) 7 (namedS (l.take k))):=hs;clear hz hs;by_cases hlt:k<l.length
  ·obtain⟨rfl,c0,c1⟩:=HO.out wr hbel k hlt;obtain⟨⟨t,a⟩,ho⟩:∃o:zab,l.getD k (0,0)=o:=⟨_,rfl⟩;rw[ho]at c0 c1;have hmem:(t,a)∈l:=by rw[<-ho];simp[List.getD,List.getElem?_eq_getElem hlt]
   have hta:=HD.out _ hmem;simp only at hta c0 c1;obtain⟨t,rfl⟩:∃n:Nat,t=n:=⟨t.toNat,by omega⟩;obtain⟨a,rfl⟩:∃n:Nat,a=n:=⟨a.toNat,by omega⟩;have HT:Hid (l.take (k+1)=l.take k++[((t:Int),(a:Int))]):=by show l.take (k+1)=l.take k++[((t:Int),(a:Int))];rw[List.take_succ_eq_append_getElem hlt,<-ho];simp[List.getD,List.getElem?_eq_getElem hlt]
   have ht1:1<=t:=by omega
   have ht6:t<=6:=by omega
   have ha1:1<=a:=by omega
   have ha6:a<=6:=by omega
   clear ho hmem hta;obtain⟨f0,z0⟩:=HS.out t (by omega);obtain⟨f1,z1⟩:=HS.out a (by omega);have hsz:=hbel.size;have ht7:(t:Int)<7:=by omega
   have ha7:(a:Int)<7:=by omega
   have hB0:w.heap.size<wr.heap.size:=by omega
   by_cases hta:t=a
   ·have HEQ:Hid (t=a):=hta;subst hta;go_wp2;go_region
    all_goals
     go_wp2;go_roundw
     case rel =>refine⟨k+1,by omega,by go_num,(((hbel.setCell (by simp) _).setCell (by simp) _).alloc (by simpa using hsz) _).drew,(((HZ.out.far _ (by simp)).far _ (by simp)).alloc _).drew,((((HS.out.set true (by omega)).set true (by omega)).alloc _).drew).congr ?_⟩;intro j _;rw[HT.out,zhB,zlb]
     case measure=>simp[intOf];omega
   ·have hat:¬a=t:=fun e=>hta e.symm;go_wp2;go_region
    all_goals
     go_wp2;go_roundw
     case rel =>refine⟨k+1,by omega,by go_num,(((hbel.setCell (by simp) _).setCell (by simp) _).alloc (by simpa using hsz) _).drew,(((HZ.out.far _ (by simp)).far _ (by simp)).alloc _).drew,((((HS.out.set true (by omega)).set true (by omega)).alloc _).drew).congr ?_⟩;intro j _;rw[HT.out,zhB,zlb]
     case measure=>simp[intOf];omega
  ·have HE:Hid (namedS (l.take k)=namedS l):=by show namedS (l.take k)=namedS l;rw[List.take_of_length_le (by omega)]
   have f0:=(HS.out 0 (by omega)).1;have f1:=(HS.out 1 (by omega)).1;have f2:=(HS.out 2 (by omega)).1;have f3:=(HS.out 3 (by omega)).1;have f4:=(HS.out 4 (by omega)).1;have f5:=(HS.out 5 (by omega)).1;have f6:=(HS.out 6 (by omega)).1;have hz:∀k,k<7->wr.cell? ⟨w.heap.size,k,none⟩=some (.bool false):=fun k hk=>(HZ.out k hk).1;have hy:∀k,k<7->wr.frozen? ⟨w.heap.size,k,none⟩=false:=fun k hk=>(HZ.out k hk).2;rw[HE.out]at f0 f1 f2 f3 f4 f5 f6;clear HZ HS;go_wp2;refine bodyPost_ret (v:=.agg #[.bool (namedS l 0),.bool (namedS l 1),.bool (namedS l 2),.bool (namedS l 3),.bool (namedS l 4),.bool (namedS l 5),.bool (namedS l 6)]) (by simp[results,Tryz.results113,go_sem,hz]) rfl ⟨rfl,?_⟩;exact((((((hbel.setCell (Nat.le_refl _) _).setCell (Nat.le_refl _) _).setCell (Nat.le_refl _) _).setCell (Nat.le_refl _) _).setCell (Nat.le_refl _) _).setCell (Nat.le_refl _) _).setCell (Nat.le_refl _) _
end Go.Proofs.YthlhgiihngcobaaGreatDoor
