/-
  PROVED HERE: plain facts, with no word of the program; plain facts, with no word of the program; plain facts, with no word of the program; plain facts, with no word of the program; history.isOp, history.ends and history.Check answer as the plain functions of the text Plain say, whatever; how a list of ops lies in memory, as a slice value that came in or that the program made itself; history.keep gives those ops of a list that a closure says yes to, in order, in new memory; history.Done gives the ops of the deals that commit, in order, of a list that is right.
  Conditions: none but those that each theorem's own premises say.
-/
import Derived.Test.YthlhgiihngcobaaGreatDoorMgaf
import Derived.Test.YthlhgiihngcobaaGreatDoorProg
import Derived.WalkKit
import Derived.WalkSpells
import Derived.Handy
import Derived.Deep.RegionWith
set_option maxHeartbeats 32000000
set_option maxRecDepth 100000
namespace Go.Proofs.YthlhgiihngcobaaGreatDoor
def zf5(s:zbg)(t:Nat)(e:zab):Bool:=e.2 == (t:Int) && s e.1.toNat
def za8(l:List zab)(s:zbg)(t:Nat):Bool:=s t && !l.any (zf5 s t)
def nextN(l:List zab)(s:zbg):Nat :=if za8 l s 1 then 1 else if za8 l s 2 then 2 else if za8 l s 3 then 3 else if za8 l s 4 then 4 else if za8 l s 5 then 5 else if za8 l s 6 then 6 else 0
theorem zhb{l:List zab}{s:zbg}{t:Nat}(h1:1<=t)(h6:t<=6)(hf:za8 l s t=true)(hb:∀j,1<=j->j<t->za8 l s j=false):nextN l s=t:=by
 unfold nextN;rcases(show t=1\/t=2\/t=3\/t=4\/t=5\/t=6 by omega)with e | e | e | e | e | e <;> subst e
 ·simp[hf]
 ·simp[hf,hb 1 (by omega) (by omega)]
 ·simp[hf,hb 1 (by omega) (by omega),hb 2 (by omega) (by omega)]
 ·simp[hf,hb 1 (by omega) (by omega),hb 2 (by omega) (by omega),hb 3 (by omega) (by omega)]
 ·simp[hf,hb 1 (by omega) (by omega),hb 2 (by omega) (by omega),hb 3 (by omega) (by omega),hb 4 (by omega) (by omega)]
 ·simp[hf,hb 1 (by omega) (by omega),hb 2 (by omega) (by omega),hb 3 (by omega) (by omega),hb 4 (by omega) (by omega),hb 5 (by omega) (by omega)]
theorem zlp{l:List zab}{s:zbg}(hb:∀j,1<=j->j<7->za8 l s j=false):nextN l s=0:=by unfold nextN;simp[hb 1 (by omega) (by omega),hb 2 (by omega) (by omega),hb 3 (by omega) (by omega),hb 4 (by omega) (by omega),hb 5 (by omega) (by omega),hb 6 (by omega) (by omega)]
theorem next_cases(l:List zab)(s:zbg):(nextN l s=0/\∀j,1<=j->j<7->za8 l s j=false)\/(1<=nextN l s/\nextN l s<=6/\za8 l s (nextN l s)=true/\∀j,1<=j->j<nextN l s->za8 l s j=false):=by
 have hw:(∀j,1<=j->j<7->za8 l s j=false)\/∃t,1<=t/\t<=6/\za8 l s t=true/\∀j,1<=j->j<t->za8 l s j=false:=by
  have:∀n,n<=7->(∀j,1<=j->j<n->za8 l s j=false)\/∃t,1<=t/\t<n/\za8 l s t=true/\∀j,1<=j->j<t->za8 l s j=false:=by
   intro n
   induction n with
   | zero=>intro _;exact .inl fun j _ h=>absurd h (by omega)
   | succ n ih =>
     intro hn;rcases ih (by omega)with h | ⟨t,a,b,c⟩
     ·by_cases h0:n=0
      ·exact .inl fun j h1 h2=>absurd h1 (by omega)
      ·cases hf:za8 l s n with
       | false =>
         refine .inl fun j h1 h2=>?_;rcases Nat.lt_or_ge j n with h' | h'
         ·exact h j h1 h'
         ·rw[show j=n by omega];exact hf
       | true=>exact .inr ⟨n,by omega,by omega,hf,h⟩
     ·exact .inr ⟨t,a,by omega,c⟩
  rcases this 7 (by omega)with h | ⟨t,a,b,c,d⟩
  ·exact .inl h
  ·exact .inr ⟨t,a,by omega,c,d⟩
 rcases hw with h | ⟨t,a,b,c,d⟩
 ·exact .inl ⟨zlp h,h⟩
 ·rw[zhb a b c d];exact .inr ⟨a,b,c,d⟩
def zdn(s:zbg)(t:Nat)(x:Bool):zbg:=fun k=>if k=t then x else s k
def zcP(s:zbg):Nat:=(s 0).toNat+(s 1).toNat+(s 2).toNat+(s 3).toNat+(s 4).toNat+(s 5).toNat+(s 6).toNat
def zeo(s:zbg):Bool:=(List.range 7).any s
theorem zjO{s:zbg}{t:Nat}(ht:t<7)(h:s t=true):zcP (zdn s t false)+1=zcP s:=by unfold zcP zdn;rcases(show t=0\/t=1\/t=2\/t=3\/t=4\/t=5\/t=6 by omega)with e | e | e | e | e | e | e <;> subst e <;> simp[h] <;> omega
theorem zge{s:zbg}(h:zeo s=true):0<zcP s:=by unfold zeo at h;obtain⟨k,hk,hs⟩:=List.any_eq_true.1 h;have:=List.mem_range.1 hk;unfold zcP;rcases(show k=0\/k=1\/k=2\/k=3\/k=4\/k=5\/k=6 by omega)with e | e | e | e | e | e | e <;> subst e <;> rw[hs] <;> simp only[Bool.toNat_true] <;> omega
theorem cnt_le(s:zbg):zcP s<=7:=by
 unfold zcP;have h:∀b:Bool,b.toNat<=1:=by decide
 have:=h (s 0);have:=h (s 1);have:=h (s 2);have:=h (s 3);have:=h (s 4);have:=h (s 5);have:=h (s 6);omega
def orderGo(l:List zab):Nat->zbg->List Int->Option (List Int)
 | 0,_,out=>some out
 | n+1,s,out=>if zeo s=true then(if nextN l s=0 then none else orderGo l n (zdn s (nextN l s) false) (out++[(nextN l s:Int)]))else some out
def zcM(l:List zab):Option (List Int):=orderGo l 7 (namedS l) []
theorem zhL{l:List zab}{n:Nat}{s:zbg}{out:List Int}(h:zeo s=false):orderGo l n s out=some out:=by
 cases n with
 | zero=>rfl
 | succ n=>simp[orderGo,h]
theorem zgR{l:List zab}{n:Nat}{s:zbg}{out:List Int}(hn:zcP s<=n)(h:zeo s=true)(h0:nextN l s=0):orderGo l n s out=none:=by
 have:=zge h
 match n,hn with
 | 0,hn=>omega
 | n+1,_=>simp[orderGo,h,h0]
theorem zjs{l:List zab}{n:Nat}{s:zbg}{out:List Int}(hn:zcP s<=n)(h:zeo s=true)(h0:nextN l s≠0):orderGo l n s out=orderGo l (n-1) (zdn s (nextN l s) false) (out++[(nextN l s:Int)]):=by
 have:=zge h
 match n,hn with
 | 0,hn=>omega
 | n+1,_=>simp[orderGo,h,h0]
end Go.Proofs.YthlhgiihngcobaaGreatDoor
namespace Go.Proofs.YthlhgiihngcobaaGreatDoor
def zCe(m:zbb):Nat->Nat->Nat->Prop
 | 0,x,y=>m x y=true
 | n+1,x,y=>∃z,m x z=true/\zCe m n z y
def Way(m:zbb)(x y:Nat):Prop:=∃n,zCe m n x y
theorem Way.one{m:zbb}{x y:Nat}(h:m x y=true):Way m x y:=⟨0,h⟩
theorem Way.more{m:zbb}{x y z:Nat}(h:m x y=true)(hw:Way m y z):Way m x z:=by obtain⟨n,hn⟩:=hw;exact⟨n+1,y,h,hn⟩
theorem zng{m:zbb}{R:Nat->Nat->Prop}(h1:∀x y,m x y=true->R x y)(h2:∀x y z,m x y=true->Way m y z->R y z->R x z){x y:Nat}(h:Way m x y):R x y:=by
 obtain⟨n,hn⟩:=h
 induction n generalizing x with
 | zero=>exact h1 x y hn
 | succ n ih =>obtain⟨z,hz,hn⟩:=hn;exact h2 x z y hz ⟨n,hn⟩ (ih hn)
theorem Way.trans{m:zbb}{x y z:Nat}(h:Way m x y)(k:Way m y z):Way m x z :=zng (R:=fun a b=>Way m b z->Way m a z) (fun _ _ h1 k=>.more h1 k) (fun _ _ _ h1 _ ih k=>.more h1 (ih k)) h k
structure zkA(m:zbb)(x n:Nat)(s r:zbg):Prop where
 keep:∀y,s y=true->r y=true
 way:∀y,r y=true->s y=true\/Way m x y
 all:∀j,j<n->m x j=true->r j=true
 shut:∀y,r y=true->s y=false->∀z,z<7->m y z=true->r z=true
theorem zkA.start(m:zbb)(x:Nat)(s:zbg):zkA m x 0 s s where
 keep:=fun _ h=>h
 way:=fun _ h=>.inl h
 all:=fun _ h=>absurd h (by omega)
 shut:=fun y h h0=>by rw[h]at h0;cases h0
theorem zkA.skip{m:zbb}{x n:Nat}{s r:zbg}(h:zkA m x n s r)(hn:m x n=false\/r n=true):zkA m x (n+1) s r where
 keep:=h.keep
 way:=h.way
 all:=fun j hj hm=>by
  rcases Nat.lt_or_ge j n with h1 | h1
  ·exact h.all j h1 hm
  ·have e:j=n:=by omega
   subst e;rcases hn with h2 | h2
   ·rw[h2]at hm;cases hm
   ·exact h2
 shut:=h.shut
theorem za6(s:zbg)(t:Nat)(x:Bool):zdn s t x t=x:=by simp[zdn]
theorem zaD(s:zbg){t y:Nat}(x:Bool)(h:y≠t):zdn s t x y=s y:=by simp[zdn,h]
theorem zkA.visit{m:zbb}{x n:Nat}{s r q:zbg}(h:zkA m x n s r)(hm:m x n=true)(k:zkA m n 7 (zdn r n true) q):zkA m x (n+1) s q:=by
 have hk:∀y,r y=true->q y=true:=fun y hy=>k.keep y (by
  by_cases e:y=n
  ·rw[e,za6]
  ·rw[zaD r true e];exact hy)
 have hn:q n=true:=k.keep n (za6 r n true);refine⟨fun y hy=>hk y (h.keep y hy),fun y hy=>?_,fun j hj hj2=>?_,fun y hy h0 z hz hyz=>?_⟩
 ·rcases k.way y hy with h1 | h1
  ·by_cases e:y=n
   ·exact .inr (.one (e ▸hm))
   ·rw[zaD r true e]at h1;exact h.way y h1
  ·exact .inr (.more hm h1)
 ·rcases Nat.lt_or_ge j n with h1 | h1
  ·exact hk j (h.all j h1 hj2)
  ·rw[show j=n by omega];exact hn
 ·by_cases e:y=n
  ·subst e;exact k.all z hz hyz
  ·cases hr:r y with
   | true=>exact hk z (h.shut y hr h0 z hz hyz)
   | false=>exact k.shut y hy (by rw[zaD r true e];exact hr) z hz hyz
theorem zx0{m:zbb}{x:Nat}{q:zbg}(hm:∀y z,m y z=true->z<7)(h:zkA m x 7 (fun _=>false) q)(y:Nat):q y=true↔Way m x y:=by
 constructor
 ·intro hy;rcases h.way y hy with h1 | h1
  ·cases h1
  ·exact h1
 ·intro hw;have:∀a b,Way m a b->(∀z,m a z=true->q z=true)->q b=true:=fun a b hab =>zng (R:=fun a b=>(∀z,m a z=true->q z=true)->q b=true) (fun _ _ e hz=>hz _ e) (fun _ _ _ e _ ih hz=>ih fun z hyz=>h.shut _ (hz _ e) rfl z (hm _ _ hyz) hyz) hab;exact this x y hw fun z hz=>h.all z (hm _ _ hz) hz
theorem zdC{l:List zab}(hd:∀e∈l,(1<=e.1/\e.1<=6)/\(1<=e.2/\e.2<=6)){y z:Nat}(h:stepsS l y z=true):(1<=y/\y<=6)/\(1<=z/\z<=6):=by unfold stepsS at h;obtain⟨e,he,h2⟩:=List.any_eq_true.1 h;have h3:=hd e he;simp only[Bool.and_eq_true,beq_iff_eq]at h2;omega
end Go.Proofs.YthlhgiihngcobaaGreatDoor
namespace Go.Proofs.YthlhgiihngcobaaGreatDoor
theorem zA2{l:List zab}{x y:Nat}(h:stepsS l x y=true):((x:Int),(y:Int))∈l:=by unfold stepsS at h;obtain⟨e,he,h2⟩:=List.any_eq_true.1 h;simp only[Bool.and_eq_true,beq_iff_eq]at h2;obtain⟨a,b⟩:=e;simp only at h2;rw[h2.1,h2.2]at he;exact he
def zgZ(l:List zab):Prop:=∀e∈l,(1<=e.1/\e.1<=6)/\(1<=e.2/\e.2<=6)
theorem zgZ.nat{l:List zab}(h:zgZ l){e:zab}(he:e∈l):∃x y:Nat,e=((x:Int),(y:Int))/\(1<=x/\x<=6)/\(1<=y/\y<=6):=by obtain⟨a,b⟩:=e;have h1:=h _ he;simp only at h1;exact⟨a.toNat,b.toNat,by rw[Int.toNat_of_nonneg (by omega),Int.toNat_of_nonneg (by omega)],by omega,by omega⟩
structure zAB(l:List zab)(s:zbg)(out:List Int):Prop where
 deal:∀x∈out,∃t:Nat,x=(t:Int)/\1<=t/\t<=6/\s t=false
 once:out.Nodup
 back:∀x y:Nat,((x:Int),(y:Int))∈l->(y:Int)∈out->∃i j:Nat,i<j/\out[i]? = some (x:Int)/\out[j]? = some (y:Int)
 all:∀x:Nat,namedS l x=true->s x=true\/(x:Int)∈out
theorem made_start(l:List zab):zAB l (namedS l) [] where
 deal:=fun _ h=>by cases h
 once:=List.nodup_nil
 back:=fun _ _ _ h=>by cases h
 all:=fun _ h=>.inl h
theorem named_from{l:List zab}{x y:Nat}(h:((x:Int),(y:Int))∈l):namedS l x=true:=List.any_eq_true.2 ⟨_,h,by simp⟩
theorem named_to{l:List zab}{x y:Nat}(h:((x:Int),(y:Int))∈l):namedS l y=true:=List.any_eq_true.2 ⟨_,h,by simp⟩
theorem zdm{l:List zab}{s:zbg}{t:Nat}(h:za8 l s t=true):s t=true/\∀x:Nat,((x:Int),(t:Int))∈l->s x=false:=by unfold za8 at h;simp only[Bool.and_eq_true,Bool.not_eq_true']at h;refine⟨h.1,fun x hx=>?_⟩;have:=List.any_eq_false.1 h.2 _ hx;simpa[zf5]using this
theorem zAB.next{l:List zab}{s:zbg}{out:List Int}(h:zAB l s out){t:Nat}(h1:1<=t)(h6:t<=6)(hf:za8 l s t=true):zAB l (zdn s t false) (out++[(t:Int)]):=by
 obtain⟨hs,hfree⟩:=zdm hf
 have hnot:(t:Int) ∉ out:=fun hm=>by
  obtain⟨u,hu,_,_,hsu⟩:=h.deal _ hm;have:t=u:=by omega
  subst this;rw[hs]at hsu;cases hsu
 refine⟨fun x hx=>?_,?_,fun x y he hy=>?_,fun x hx=>?_⟩
 ·rcases List.mem_append.1 hx with hx | hx
  ·obtain⟨u,hu,a,b,c⟩:=h.deal x hx;refine⟨u,hu,a,b,?_⟩;by_cases e:u=t
   ·rw[e,za6]
   ·rw[zaD s false e];exact c
  ·rw[List.mem_singleton.1 hx];exact⟨t,rfl,h1,h6,za6 s t false⟩
 ·rw[List.nodup_append];refine⟨h.once,by simp,fun a ha b hb=>?_⟩;rw[List.mem_singleton.1 hb];exact fun e=>hnot (e ▸ha)
 ·by_cases hyo:(y:Int)∈out
  ·obtain⟨i,j,hij,hi,hj⟩:=h.back x y he hyo;have hjl:=(List.getElem?_eq_some_iff.1 hj).1;exact⟨i,j,hij,by rw[List.getElem?_append_left (by omega)];exact hi,by rw[List.getElem?_append_left hjl];exact hj⟩
  ·have hyt:y=t:=by
    rcases List.mem_append.1 hy with hy | hy
    ·exact absurd hy hyo
    ·have:=List.mem_singleton.1 hy;omega
   subst hyt;have hx0:=hfree x he
   have hxo:(x:Int)∈out:=by
    rcases h.all x (named_from he)with hh | hh
    ·rw[hx0]at hh;cases hh
    ·exact hh
   obtain⟨i,hi⟩:=List.getElem?_of_mem hxo;have hil:=(List.getElem?_eq_some_iff.1 hi).1;exact⟨i,out.length,hil,by rw[List.getElem?_append_left hil];exact hi,by simp⟩
 ·rcases h.all x hx with hh | hh
  ·by_cases e:x=t
   ·exact .inr (by rw[e];simp)
   ·exact .inl (by rw[zaD s false e];exact hh)
  ·exact .inr (List.mem_append_left _ hh)
def zA9(l:List zab)(s:zbg):Prop:=(∃t:Nat,1<=t/\t<=6/\s t=true)/\∀t:Nat,1<=t->t<=6->s t=true->∃x:Nat,1<=x/\x<=6/\s x=true/\((x:Int),(t:Int))∈l
theorem order_goes{l:List zab}(hr:zgZ l):∀(n:Nat) (s:zbg) (out:List Int),zcP s<=n->(∀k,s k=true->1<=k/\k<=6)->zAB l s out ->
  (∃o s',orderGo l n s out=some o/\zAB l s' o/\zeo s'=false)\/(orderGo l n s out=none/\∃s',zA9 l s'):=by
 intro n
 induction n with
 | zero =>
   intro s out hn hs hm;refine .inl ⟨out,s,rfl,hm,?_⟩;cases h:zeo s with
   | false=>rfl
   | true=>have:=zge h;omega
 | succ n ih =>
   intro s out hn hs hm;cases h:zeo s with
   | false=>exact .inl ⟨out,s,zhL h,hm,h⟩
   | true =>
     rcases next_cases l s with⟨h0,hnone⟩ | ⟨h1,h6,hf,_⟩
     ·refine .inr ⟨zgR hn h h0,s,?_,fun t a b hst=>?_⟩
      ·unfold zeo at h;obtain⟨k,_,hk⟩:=List.any_eq_true.1 h;exact⟨k,(hs k hk).1,(hs k hk).2,hk⟩
      ·have hft:=hnone t a (by omega);unfold za8 at hft;rw[hst,Bool.true_and,Bool.not_eq_false']at hft;obtain⟨e,he,he2⟩:=List.any_eq_true.1 hft;obtain⟨x,y,rfl,hx,hy⟩:=hr.nat he;simp only[zf5,Bool.and_eq_true,beq_iff_eq,Int.toNat_natCast]at he2;have:y=t:=by omega
       subst this;exact⟨x,hx.1,hx.2,he2.2,he⟩
     ·have hst:=(zdm hf).1;rw[zjs hn h (by omega)];have hc:=zjO (s:=s) (t:=nextN l s) (by omega) hst;refine ih _ _ (by omega) (fun k hk=>?_) (hm.next h1 h6 hf);by_cases e:k=nextN l s
      ·rw[e,za6]at hk;cases hk
      ·rw[zaD s false e]at hk;exact hs k hk
theorem named_right{l:List zab}(hr:zgZ l)(k:Nat)(h:namedS l k=true):1<=k/\k<=6:=by unfold namedS at h;obtain⟨e,he,h2⟩:=List.any_eq_true.1 h;obtain⟨x,y,rfl,hx,hy⟩:=hr.nat he;simp only[Bool.or_eq_true,beq_iff_eq]at h2;omega
structure zzW(l:List zab)(o:List Int):Prop where
 deal:∀x∈o,∃t:Nat,x=(t:Int)/\1<=t/\t<=6
 once:o.Nodup
 back:∀x y:Nat,((x:Int),(y:Int))∈l->∃i j:Nat,i<j/\o[i]? = some (x:Int)/\o[j]? = some (y:Int)
theorem order_either{l:List zab}(hr:zgZ l):(∃o,zcM l=some o/\zzW l o)\/(zcM l=none/\∃s,zA9 l s):=by
 rcases order_goes hr 7 (namedS l) [] (cnt_le _) (named_right hr) (made_start l)with⟨o,s',h1,h2,h3⟩ | ⟨h1,h2⟩
 ·refine .inl ⟨o,h1,fun x hx=>?_,h2.once,fun x y he=>h2.back x y he ?_⟩
  ·obtain⟨t,a,b,c,_⟩:=h2.deal x hx;exact⟨t,a,b,c⟩
  ·rcases h2.all y (named_to he)with hh | hh
   ·have:=named_right hr y (named_to he);unfold zeo at h3;have:=List.any_eq_false.1 h3 y (List.mem_range.2 (by omega));rw[hh]at this;simp at this
   ·exact hh
 ·exact .inr ⟨h1,h2⟩
end Go.Proofs.YthlhgiihngcobaaGreatDoor
namespace Go.Proofs.YthlhgiihngcobaaGreatDoor
theorem putL_mem(l:List Int)(n x:Int):x∈zft l n↔x=n\/x∈l:=by
 induction l with
 | nil=>simp[zft]
 | cons a r ih =>
   unfold zft;split
   ·rename_i h;subst h;simp
   ·split
    ·simp
    ·rw[List.mem_cons,ih,List.mem_cons];constructor
     ·rintro(h | h | h)
      ·exact .inr (.inl h)
      ·exact .inl h
      ·exact .inr (.inr h)
     ·rintro(h | h | h)
      ·exact .inr (.inl h)
      ·exact .inl h
      ·exact .inr (.inr h)
theorem putL_rise{l:List Int}(h:l.Pairwise (· < ·))(n:Int):(zft l n).Pairwise (· < ·):=by
 induction l with
 | nil=>simp[zft]
 | cons a r ih =>
   obtain⟨h1,h2⟩:=List.pairwise_cons.1 h;unfold zft;split
   ·exact h
   ·rename_i hne;split
    ·rename_i hlt;refine List.pairwise_cons.2 ⟨fun x hx=>?_,h⟩;rcases List.mem_cons.1 hx with rfl | hx
     ·exact hlt
     ·have:=h1 x hx;omega
    ·refine List.pairwise_cons.2 ⟨fun x hx=>?_,ih h2⟩;rcases(putL_mem r n x).1 hx with rfl | hx
     ·omega
     ·exact h1 x hx
def namedI(l:List zab):List Int:=l.foldl (fun d e=>zft (zft d e.1) e.2) []
theorem zoq(l:List zab)(e:zab):namedI (l++[e])=zft (zft (namedI l) e.1) e.2:=by simp[namedI]
theorem zzM{P:List zab->Prop}(h0:P [])(h1:∀l e,P l->P (l++[e]))(l:List zab):P l:=by
 have:∀n (l:List zab),l.length=n->P l:=by
  intro n
  induction n with
  | zero=>intro l hl;rw[List.length_eq_zero_iff.1 hl];exact h0
  | succ n ih =>
    intro l hl;have hne:l≠[]:=fun e=>by rw[e]at hl;simp at hl
    rw[<-List.dropLast_concat_getLast hne];exact h1 _ _ (ih _ (by rw[List.length_dropLast,hl];rfl))
 exact this _ l rfl
theorem zjd(l:List zab)(x:Int):x∈namedI l↔∃e∈l,x=e.1\/x=e.2:=by
 refine zzM (P:=fun l=>x∈namedI l↔∃e∈l,x=e.1\/x=e.2) (by simp[namedI]) (fun l e ih=>?_) l;rw[zoq,putL_mem,putL_mem,ih];constructor
 ·rintro(h | h | ⟨f,hf,h⟩)
  ·exact⟨e,by simp,.inr h⟩
  ·exact⟨e,by simp,.inl h⟩
  ·exact⟨f,List.mem_append_left _ hf,h⟩
 ·rintro⟨f,hf,h⟩;rcases List.mem_append.1 hf with hf | hf
  ·exact .inr (.inr ⟨f,hf,h⟩)
  ·rw[List.mem_singleton.1 hf]at h;rcases h with h | h
   ·exact .inr (.inl h)
   ·exact .inl h
theorem zfo(l:List zab)(t:Nat):namedS l t=inB (namedI l) (t:Int):=by
 rw[Bool.eq_iff_iff,zaV,zjd];unfold namedS;rw[List.any_eq_true];constructor
 ·rintro⟨e,he,h⟩;simp only[Bool.or_eq_true,beq_iff_eq]at h;exact⟨e,he,h.imp Eq.symm Eq.symm⟩
 ·rintro⟨e,he,h⟩;exact⟨e,he,by simp only[Bool.or_eq_true,beq_iff_eq];exact h.imp Eq.symm Eq.symm⟩
def zlj(d out:List Int):zbg:=fun t=>inB d (t:Int) && !inB out (t:Int)
theorem zxQ{q r:zab->Bool}:∀ {l:List zab},(∀e∈l,q e=r e)->l.any q=l.any r:=by
 intro l
 induction l with
 | nil=>intro _;rfl
 | cons a t ih =>intro h;rw[List.any_cons,List.any_cons,h a (List.mem_cons_self ..),ih fun e he=>h e (List.mem_cons_of_mem _ he)]
theorem zzX{s:zbg}(h:zeo s=false):zcP s=0:=by
 have hz:∀k,k<7->s k=false:=fun k hk=>by have:=List.any_eq_false.1 h k (List.mem_range.2 hk);simpa using this
 unfold zcP;rw[hz 0 (by omega),hz 1 (by omega),hz 2 (by omega),hz 3 (by omega),hz 4 (by omega),hz 5 (by omega),hz 6 (by omega)];rfl
end Go.Proofs.YthlhgiihngcobaaGreatDoor
namespace Go.Proofs.YthlhgiihngcobaaGreatDoor
open Go.RowKit
def zd4(w:World)(b off:Nat)(l:List Op3):Prop :=∀i,i<l.length->w.cell? ⟨b,off+i*3,none⟩=some (.int .i64 (l.getD i (0,0,0)).1)/\w.cell? ⟨b,off+i*3+1,none⟩=some (.int .i64 (l.getD i (0,0,0)).2.1)/\w.cell? ⟨b,off+i*3+2,none⟩=some (.int .i64 (l.getD i (0,0,0)).2.2)
theorem ret_bool{x y:Bool}(h:x=y):Ending.returned (.bool x)=.returned (.bool y):=by rw[h]
theorem ends_any(a:Int)(w:World):Calls Tryz.prog 140 #[.int .i64 a] w fun e w'=>e=.returned (.bool (zaM a))/\w'=w:=by
 go_enter Tryz.func140,Tryz.ntmps140;go_wp2;all_goals go_ret
 all_goals exact⟨by simp_all [zaM],rfl⟩
theorem isOp_any(t a i:Int)(w:World):Calls Tryz.prog 139 #[.agg #[.int .i64 t,.int .i64 a,.int .i64 i]] w fun e w'=>e=.returned (.bool (isOpB (t,a,i)))/\w'=w.alloc (.cells #[.int .i64 t,.int .i64 a,.int .i64 i] 103):=by
 go_enter Tryz.func139,Tryz.ntmps139;go_wp2_with (go_at_call 140;refine(ends_any _ _).mono ?_;rintro e w' ⟨rfl,rfl⟩);all_goals go_ret
 all_goals refine⟨ret_bool ?_,rfl⟩
 all_goals (first | (simp_all [isOpB];done) | (simp_all [isOpB];omega))
def zeH(n:Int):Value:=if n=0 then .nilIface else .iface 80 (.int .i64 n)
theorem zir{n:Int}(h:n≠0):zeH n=.iface 80 (.int .i64 n):=if_neg h
theorem zkh{x y:Int}{v u:Value}(h:x=y)(h2:v=u):Ending.returned (.tuple #[.int .i64 x,v])=.returned (.tuple #[.int .i64 y,u]):=by rw[h,h2]
def zfh(w:World)(B:Nat)(l:List Op3):Prop:=∀j,j<7->w.cell? ⟨B,j,none⟩=some (.bool (zaz l (j:Nat)))/\w.frozen? ⟨B,j,none⟩=false
theorem zfh.lt{w:World}{B:Nat}{l:List Op3}(h:zfh w B l):B<w.heap.size:=by
 rcases Nat.lt_or_ge B w.heap.size with h0 | h0
 ·exact h0
 ·have:=(h 0 (by omega)).1;simp[World.cell?,Array.getElem?_eq_none h0]at this
theorem zog(l:List Op3)(w:World):zfh (w.alloc (.cells #[.bool false,.bool false,.bool false,.bool false,.bool false,.bool false,.bool false] 25)) w.heap.size (List.take 0 l):=by
 intro j hj
 match j,hj with
 | 0,_=>exact⟨by simp[zaz],by simp⟩
 | 1,_=>exact⟨by simp[zaz],by simp⟩
 | 2,_=>exact⟨by simp[zaz],by simp⟩
 | 3,_=>exact⟨by simp[zaz],by simp⟩
 | 4,_=>exact⟨by simp[zaz],by simp⟩
 | 5,_=>exact⟨by simp[zaz],by simp⟩
 | 6,_=>exact⟨by simp[zaz],by simp⟩
theorem zcY(l:List Op3)(o:Op3)(t:Int):zaz (l++[o]) t=(zaz l t || (o.1 == t && zaM o.2.1)):=by simp[zaz]
theorem zfh.step{w:World}{B:Nat}{l:List Op3}{t a i:Int}(h:zfh w B l)(h1:1<=t)(h6:t<=6)(hen:zaz l t=false)(o1 o2:Obj):zfh (((w.setCell ⟨B,t.toNat,none⟩ (.bool (zaM a))).alloc o1).alloc o2).drew B (l++[(t,a,i)]):=by
 have hlt:=h.lt;intro j hj;have hz:(w.setCell ⟨B,t.toNat,none⟩ (.bool (zaM a))).heap.size=w.heap.size:=by simp
 obtain⟨hc,hf⟩:=h j hj;obtain⟨hct,_⟩:=h t.toNat (by omega);constructor
 ·rw[World.cell?_drew,World.cell?_alloc_lt _ _ ⟨B,j,none⟩ (by simp;omega),World.cell?_alloc_lt _ _ ⟨B,j,none⟩ (by simp;omega),zcY];by_cases hjt:j=t.toNat
  ·subst hjt;rw[World.cell?_setCell_same _ _ _ hct,show((t.toNat:Nat):Int)=t by omega,hen];simp
  ·rw[World.cell?_setCell_other _ _ _ _ (by intro he;injection he with _ he2 _;exact hjt he2.symm),hc];have:(t == (j:Int))=false:=by simp;omega
   simp[this]
 ·rw[World.frozen?_drew,World.frozen?_alloc_old _ _ ⟨B,j,none⟩ (by simp;omega),World.frozen?_alloc_old _ _ ⟨B,j,none⟩ (by simp;omega)];simpa using hf
theorem zbu{o:Op3}(h:isOpB o=true):1<=o.1/\o.1<=6:=by simp[isOpB]at h;omega
theorem zy9{l:List Op3}{k:Nat}{o:Op3}(hk:k<l.length)(h:chkFrom (l.take k) (l.drop k)=chk l)(hd:l.drop k=o::l.drop (k+1))(ho:isOpB o=false):chk l=(k,1):=by rw[<-h,hd,zd1 _ _ ho,List.length_take,Nat.min_eq_left (by omega)]
theorem zAb{l:List Op3}{k:Nat}{o:Op3}(hk:k<l.length)(h:chkFrom (l.take k) (l.drop k)=chk l)(hd:l.drop k=o::l.drop (k+1))(ho:isOpB o=true)(he:zaz (l.take k) o.1=true):chk l=(k,6):=by rw[<-h,hd,zec _ ho he,List.length_take,Nat.min_eq_left (by omega)]
theorem zwe{l:List Op3}{k:Nat}{o:Op3}(h:chkFrom (l.take k) (l.drop k)=chk l)(hd:l.drop k=o::l.drop (k+1))(ht:l.take (k+1)=l.take k++[o])(ho:isOpB o=true)(he:zaz (l.take k) o.1=false):chkFrom (l.take (k+1)) (l.drop (k+1))=chk l:=by rw[<-h,hd,zgb _ ho he,ht]
theorem zzu{l:List Op3}{k:Nat}(hk:l.length<=k)(h:chkFrom (l.take k) (l.drop k)=chk l):chk l=(0,0):=by rw[<-h,List.drop_of_length_le hk];rfl
theorem ztK(l:List Op3)(ad:Option Addr)(b off cap:Nat)(w:World)(ha:0<l.length->ad=some ⟨b,off,none⟩)(hbB:b<w.heap.size\/l=[])(hops:zd4 w b off l):Calls Tryz.prog 81 #[.slice ad l.length cap] w fun e w'=>e=.returned (.tuple #[.int .i64 (chk l).1,zeH (chk l).2])/\Below w.heap.size w w':=by
 by_cases h40:40<l.length
 ·have hc:chk l=(0,4):=by unfold chk;rw[if_pos h40]
  have HC:Hid (chk l=(0,4)):=hc;clear hc hops ha hbB;go_enter Tryz.func81,Tryz.ntmps81;go_wp2;go_ret2;exact⟨zkh (by rw[HC.out];rfl) (by rw[HC.out];rfl),Below.refl _ _⟩
 ·have HC:Hid (chk l=chkFrom [] l):=zfN l (by omega);go_enter Tryz.func81,Tryz.ntmps81;go_wp2
  go_loopw [13] (fun v13 wr=>∃k:Nat,k<=l.length/\v13=.int .i64 k/\chkFrom (l.take k) (l.drop k)=chk l/\zfh wr w.heap.size (l.take k)/\Below w.heap.size w wr) (fun v13 _=>l.length-(intOf v13).toNat)
  case atStart=>exact⟨0,Nat.zero_le _,rfl,by rw[HC.out];simp,zog l w,(Below.refl _ _).alloc (Nat.le_refl _) _⟩
  case round =>
   obtain⟨k,hk,rfl,hck,hend,hbel⟩:=hrel;have HK:Hid (chkFrom (l.take k) (l.drop k)=chk l):=hck;clear hck;by_cases hlt:k<l.length
   ·have hsz:w.heap.size<wr.heap.size:=hend.lt;obtain rfl:=ha (by omega);obtain⟨c0,c1,c2⟩:=hops k hlt
    have hb1:b<w.heap.size:=by
     rcases hbB with h | h
     ·exact h
     ·subst h;simp at hlt
    rw[<-hbel.cell (p:=⟨b,off+k*3,none⟩) hb1]at c0;rw[<-hbel.cell (p:=⟨b,off+k*3+1,none⟩) hb1]at c1;rw[<-hbel.cell (p:=⟨b,off+k*3+2,none⟩) hb1]at c2;obtain⟨⟨t,a,i⟩,ho⟩:∃o:Op3,l.getD k (0,0,0)=o:=⟨_,rfl⟩;rw[ho]at c0 c1 c2;have hdr:l.drop k=(t,a,i)::l.drop (k+1):=by rw[<-ho];simp[List.getD,List.getElem?_eq_getElem hlt]
    have HD:Hid (l.drop k=(t,a,i)::l.drop (k+1)):=hdr;have HT:Hid (l.take (k+1)=l.take k++[(t,a,i)]):=by show l.take (k+1)=l.take k++[(t,a,i)];rw[List.take_succ_eq_append_getElem hlt,<-ho];simp[List.getD,List.getElem?_eq_getElem hlt]
    clear ho hdr hops ha hbB;simp only at c0 c1 c2;cases hop:isOpB (t,a,i)with
    | false =>go_wp2_with (first | (go_at_call 139;refine(isOp_any _ _ _ _).mono ?_;rintro e w' ⟨rfl,rfl⟩));go_ret2;have hres:=zy9 hlt HK.out HD.out hop;exact⟨zkh (by rw[hres]) (by rw[hres];rfl),(((hbel.alloc (by omega) _).alloc (by simp;omega) _))⟩
    | true =>
      have htb:=zbu hop;obtain⟨ht1,ht6⟩:=htb;have hce:=hend t.toNat (by omega);rw[show((t.toNat:Nat):Int)=t by omega]at hce;obtain⟨hc1,hc2⟩:=hce;cases hen:zaz (l.take k) t with
      | true =>rw[hen]at hc1;go_wp2_with (first | (go_at_call 139;refine(isOp_any _ _ _ _).mono ?_;rintro e w' ⟨rfl,rfl⟩));go_ret2;have hres:=zAb hlt HK.out HD.out hop hen;exact⟨zkh (by rw[hres]) (by rw[hres];rfl),(((hbel.alloc (by omega) _).alloc (by simp;omega) _))⟩
      | false =>
        rw[hen]at hc1;go_wp2_with (first | (go_at_call 139;refine(isOp_any _ _ _ _).mono ?_;rintro e w' ⟨rfl,rfl⟩))
        go_region_with (go_at_call 140;refine(ends_any _ _).mono ?_;rintro e w' ⟨rfl,rfl⟩)
        all_goals
         go_wp2;go_roundw
         case rel=>exact⟨k+1,by omega,by go_num,zwe HK.out HD.out HT.out hop hen,by rw[HT.out];exact hend.step ht1 ht6 hen _ _,((((hbel.setCell (by simp) _).alloc (by simp;omega) _).alloc (by simp;omega) _)).drew⟩
         case measure=>simp[intOf];omega
   ·go_wp2;go_ret2;have hres:=zzu (by omega) HK.out;exact⟨zkh (by rw[hres];rfl) (by rw[hres];rfl),hbel⟩
end Go.Proofs.YthlhgiihngcobaaGreatDoor
namespace Go.Proofs.YthlhgiihngcobaaGreatDoor
open Go.RowKit
def flat:List Op3->List Value
 | []=>[]
 | o::r=>.int .i64 o.1 :: .int .i64 o.2.1 :: .int .i64 o.2.2::flat r
theorem zbr(l:List Op3):(flat l).length=l.length*3:=by
 induction l with
 | nil=>rfl
 | cons o r ih=>simp[flat,ih];omega
theorem zaP(l m:List Op3):flat (l++m)=flat l++flat m:=by
 induction l with
 | nil=>rfl
 | cons o r ih=>simp[flat,ih]
theorem zba(l:List Op3):∀u∈flat l,u.oneCell'=true:=by
 induction l with
 | nil=>intro u hu;cases hu
 | cons o r ih =>
   intro u hu;simp only[flat,List.mem_cons]at hu;rcases hu with rfl | rfl | rfl | hu
   ·rfl
   ·rfl
   ·rfl
   ·exact ih u hu
theorem zgw(l:List Op3):∀i,i<l.length->(flat l)[i*3]? = some (.int .i64 (l.getD i (0,0,0)).1)/\(flat l)[i*3+1]? = some (.int .i64 (l.getD i (0,0,0)).2.1)/\(flat l)[i*3+2]? = some (.int .i64 (l.getD i (0,0,0)).2.2):=by
 induction l with
 | nil=>intro i hi;cases hi
 | cons o r ih =>
   intro i hi;cases i with
   | zero=>exact⟨rfl,rfl,rfl⟩
   | succ i =>have:=ih i (by simpa using hi);rw[show(i+1)*3=i*3+3 by omega];simpa[flat]using this
theorem zo0{w:World}{b off:Nat}{l:List Op3}(h:∀j u,(flat l)[j]? = some u->w.cell? ⟨b,off+j,none⟩=some u):zd4 w b off l:=by intro i hi;obtain⟨h0,h1,h2⟩:=zgw l i hi;exact⟨h _ _ h0,by rw[Nat.add_assoc];exact h _ _ h1,by rw[Nat.add_assoc];exact h _ _ h2⟩
theorem zd4.flat{w:World}{b off:Nat}{l:List Op3}(h:zd4 w b off l):∀j u,(flat l)[j]? = some u->w.cell? ⟨b,off+j,none⟩=some u:=by
 intro j u hj;have hlt:j<l.length*3:=by rw[<-zbr];exact(List.getElem?_eq_some_iff.1 hj).1
 obtain⟨c0,c1,c2⟩:=h (j / 3) (by omega);obtain⟨f0,f1,f2⟩:=zgw l (j / 3) (by omega);rcases(show j=j / 3*3\/j=j / 3*3+1\/j=j / 3*3+2 by omega)with e | e | e
 ·rw[<-e]at c0 f0;rw[f0]at hj;rw[c0,<-hj]
 ·rw[Nat.add_assoc,<-e]at c1;rw[<-e]at f1;rw[f1]at hj;rw[c1,<-hj]
 ·rw[Nat.add_assoc,<-e]at c2;rw[<-e]at f2;rw[f2]at hj;rw[c2,<-hj]
theorem zd4.below{w w1:World}{b off B:Nat}{l:List Op3}(h:zd4 w b off l)(hb:Below B w w1)(hB:b<B\/l=[]):zd4 w1 b off l:=by
 intro i hi
 have hB':b<B:=by
  rcases hB with h | h
  ·exact h
  ·subst h;cases hi
 rw[hb.cell (p:=⟨b,off+i*3,none⟩) hB',hb.cell (p:=⟨b,off+i*3+1,none⟩) hB',hb.cell (p:=⟨b,off+i*3+2,none⟩) hB'];exact h i hi
theorem zmo:(Tryz.prog.info? 103).map (fun i=>(i.zero,i.size,i.bytes))=some (some (.agg #[.int .i64 0,.int .i64 0,.int .i64 0]),3,24):=by kernel_rfl
def zai(w:World)(v:Value)(l:List Op3):Prop :=∃(ad:Option Addr) (b off cap:Nat),v=.slice ad l.length cap/\(0<l.length->ad=some ⟨b,off,none⟩)/\(ad=none->l.length=0/\cap=0)/\(b<w.heap.size\/l=[])/\zd4 w b off l
theorem zai.below{w w1:World}{B:Nat}{v:Value}{l:List Op3}(h:zai w v l)(hb:Below B w w1)(hB:w.heap.size<=B):zai w1 v l:=by
 obtain⟨ad,b,off,cap,hv,ha,hn,hbB,hops⟩:=h;have hs:=hb.size;refine⟨ad,b,off,cap,hv,ha,hn,?_,hops.below hb ?_⟩
 ·rcases hbB with h | h
  ·exact .inl (by omega)
  ·exact .inr h
 ·rcases hbB with h | h
  ·exact .inl (by omega)
  ·exact .inr h
theorem zef(w:World):zai w (.slice none 0 0) []:=⟨none,0,0,0,rfl,fun h=>absurd h (by simp),fun _=>⟨rfl,rfl⟩,.inr rfl,fun i hi=>by simp at hi⟩
theorem zdT{w:World}{base e n:Nat}{v:Value}{l:List Op3}(h:w.ownsRow base e 3 v n (flat l))(hl:l.length=n):zai w v l:=by
 have h':=h;obtain⟨_,⟨hv,hd⟩ | ⟨g,cap,cur,hv,hb,hg,hn,hm,hsz,htk⟩⟩:=h'
 ·have:l=[]:=List.length_eq_zero_iff.1 (by omega);subst this;rw[hv];exact zef w
 ·refine⟨some ⟨g,0,none⟩,g,0,cap,by rw[hl];exact hv,fun _=>rfl,fun h=>(by simp at h),.inl (h.lt g (by rw[hv];rfl)).2,zo0 fun j u hj=>?_⟩;have:=h.cells (g:=g) (by rw[hv];rfl) j u hj;rw[Addr.add_lit]at this;exact this
theorem zvf(l:List Op3)(v:Value)(w:World)(h:zai w v l):Calls Tryz.prog 81 #[v] w fun e w'=>e=.returned (.tuple #[.int .i64 (chk l).1,zeH (chk l).2])/\Below w.heap.size w w':=by obtain⟨ad,b,off,cap,rfl,ha,_,hbB,hops⟩:=h;exact ztK l ad b off cap w ha hbB hops
theorem check_ok(l:List Op3)(v:Value)(w:World)(h:zai w v l)(hc:(chk l).2=0):Calls Tryz.prog 81 #[v] w fun e w'=>e=.returned (.tuple #[.int .i64 (chk l).1,.nilIface])/\Below w.heap.size w w':=by refine(zvf l v w h).mono ?_;rintro e w' ⟨he,hb⟩;rw[hc]at he;exact⟨he,hb⟩
theorem check_bad(l:List Op3)(v:Value)(w:World)(h:zai w v l)(hc:(chk l).2≠0):Calls Tryz.prog 81 #[v] w fun e w'=>e=.returned (.tuple #[.int .i64 (chk l).1,.iface 80 (.int .i64 (chk l).2)])/\Below w.heap.size w w':=by refine(zvf l v w h).mono ?_;rintro e w' ⟨he,hb⟩;rw[zir hc]at he;exact⟨he,hb⟩
theorem zoP(w:World)(t a i:Int):∀j u,(flat [(t,a,i)])[j]? = some u->(w.alloc (.cells #[.int .i64 t,.int .i64 a,.int .i64 i] 103)).cell? ((⟨w.heap.size,0,none⟩:Addr).add j)=some u:=by
 intro j u hj
 match j,hj with
 | 0,hj=>simp[flat]at hj;subst hj;simp[Addr.add]
 | 1,hj=>simp[flat]at hj;subst hj;simp[Addr.add]
 | 2,hj=>simp[flat]at hj;subst hj;simp[Addr.add]
 | k+3,hj=>simp[flat]at hj
end Go.Proofs.YthlhgiihngcobaaGreatDoor
namespace Go.Proofs.YthlhgiihngcobaaGreatDoor
open Go.RowKit
theorem isOf1_any(t a i tx:Int)(c:Nat)(w:World)(hc:w.cell? ⟨c,0,none⟩=some (.int .i64 tx))(hcl:c<w.heap.size):Calls Tryz.prog 184 #[.agg #[.int .i64 t,.int .i64 a,.int .i64 i],.pointer (some ⟨c,0,none⟩)] w fun e w'=>e=.returned (.bool (t == tx))/\w'=w.alloc (.cells #[.int .i64 t,.int .i64 a,.int .i64 i] 103):=by go_enter Tryz.func184,Tryz.ntmps184;go_wp2;go_ret;exact⟨rfl,rfl⟩
theorem done1_any(t a i:Int)(c:Nat)(f:Nat->Bool)(w:World)(hc:∀j,j<7->w.cell? ⟨c,j,none⟩=some (.bool (f j)))(hcl:c<w.heap.size)(ht:1<=t)(ht6:t<=6):Calls Tryz.prog 119 #[.agg #[.int .i64 t,.int .i64 a,.int .i64 i],.pointer (some ⟨c,0,none⟩)] w fun e w'=>e=.returned (.bool (f t.toNat))/\w'=w.alloc (.cells #[.int .i64 t,.int .i64 a,.int .i64 i] 103):=by have hc':=hc t.toNat (by omega);clear hc;go_enter Tryz.func119,Tryz.ntmps119;go_wp2;go_ret;exact⟨rfl,rfl⟩
theorem zds(q:Op3->Bool)(l:List Op3)(k:Nat)(o:Op3)(h:l.take (k+1)=l.take k++[o]):(l.take (k+1)).filter q=(l.take k).filter q++(if q o then[o]else[]):=by rw[h,List.filter_append];cases hq:q o <;> simp[hq]
theorem zoZ(q:Op3->Bool)(l:List Op3)(k:Nat):((l.take k).filter q).length<=k:=by have h1:=List.length_filter_le q (l.take k);have h2:(l.take k).length<=k:=List.length_take_le _ _;omega
theorem zAe(l:List Op3)(ad:Option Addr)(b off cap:Nat)(c:Nat)(tx:Int)(w:World)(hlen:l.length<=140737488351)(ha:0<l.length->ad=some ⟨b,off,none⟩)(hbB:b<w.heap.size\/l=[])(hops:zd4 w b off l)(hc:w.cell? ⟨c,0,none⟩=some (.int .i64 tx))(hcl:c<w.heap.size):Calls Tryz.prog 118 #[.slice ad l.length cap,.func (.func 184) #[] #[.pointer (some ⟨c,0,none⟩)]] w fun e w'=>∃v,e=.returned v/\zai w' v (l.filter (fun o:Op3=>o.1 == tx))/\Below w.heap.size w w':=by
 go_enter Tryz.func118,Tryz.ntmps118;go_wp2
 go_loopw [5,10] (fun v5 v10 wr=>∃k:Nat,k<=l.length/\v10=.int .i64 k/\wr.ownsRow w.heap.size 103 3 v5 ((l.take k).filter (fun o:Op3=>o.1 == tx)).length (flat ((l.take k).filter (fun o:Op3=>o.1 == tx)))/\Below w.heap.size w wr) (fun _ v10 _=>l.length-(intOf v10).toNat)
 case atStart=>exact⟨0,Nat.zero_le _,rfl,World.ownsRow_nil _ _ _ _,Below.refl _ _⟩
 case round =>
  obtain⟨k,hk,rfl,hown,hbel⟩:=hrel;by_cases hlt:k<l.length
  ·obtain rfl:=ha (by omega);obtain⟨c0,c1,c2⟩:=hops k hlt
   have hb1:b<w.heap.size:=by
    rcases hbB with h | h
    ·exact h
    ·subst h;simp at hlt
   rw[<-hbel.cell (p:=⟨b,off+k*3,none⟩) hb1]at c0;rw[<-hbel.cell (p:=⟨b,off+k*3+1,none⟩) hb1]at c1;rw[<-hbel.cell (p:=⟨b,off+k*3+2,none⟩) hb1]at c2;obtain⟨⟨t,a,i⟩,ho⟩:∃o:Op3,l.getD k (0,0,0)=o:=⟨_,rfl⟩;rw[ho]at c0 c1 c2;have HT:Hid (l.take (k+1)=l.take k++[(t,a,i)]):=by show l.take (k+1)=l.take k++[(t,a,i)];rw[List.take_succ_eq_append_getElem hlt,<-ho];simp[List.getD,List.getElem?_eq_getElem hlt]
   have hsz:=hbel.size;rw[<-hbel.cell (p:=⟨c,0,none⟩) hcl]at hc;have hkl:=zoZ (fun o:Op3=>o.1 == tx) l k;clear ho hops ha hbB;simp only at c0 c1 c2;cases hq:(fun o:Op3=>o.1 == tx) (t,a,i)with
   | false =>
     have HQ:Hid ((fun o:Op3=>o.1 == tx) (t,a,i)=false):=hq;simp only at hq;go_wp2_with (go_at_call 184;refine(isOf1_any t a i tx c _ (by simpa[World.cell?_alloc_lt,show c<wr.heap.size by omega]using hc) (by simp;omega)).mono ?_;rintro e w' ⟨rfl,rfl⟩);go_roundw
     case rel=>exact⟨k+1,by omega,by go_num,by rw[zds _ l k _ HT.out,HQ.out];simpa using (hown.alloc _).alloc _,(hbel.alloc (by omega) _).alloc (by simp;omega) _⟩
     case measure=>simp[intOf];omega
   | true =>
     have HQ:Hid ((fun o:Op3=>o.1 == tx) (t,a,i)=true):=hq;simp only at hq;obtain⟨i0,hi,hz0,hs0,hy0⟩:=info_parts zmo;have HI:Hid (Tryz.prog.info? 103=some i0/\i0.zero=some (.agg #[.int .i64 0,.int .i64 0,.int .i64 0])/\i0.size=3/\i0.bytes=24):=⟨hi,hz0,hs0,hy0⟩;clear hi hz0 hs0 hy0;go_wp2_with (first | (go_at_call 184;refine(isOf1_any t a i tx c _ (by simpa[World.cell?_alloc_lt,show c<wr.heap.size by omega]using hc) (by simp;omega)).mono ?_;rintro e w' ⟨rfl,rfl⟩) | (at_builtin;refine wpList_append_own _ rfl (.tmp 17) (.tmp 19) 28 rfl w.heap.size 103 i0 (.agg #[.int .i64 0,.int .i64 0,.int .i64 0]) 3 24 Tryz.underlying28 HI.out.1 HI.out.2.1 HI.out.2.2.1 HI.out.2.2.2 rfl (by decide) u5 ((l.take k).filter (fun o:Op3=>o.1 == tx)).length (flat ((l.take k).filter (fun o:Op3=>o.1 == tx))) rfl (((hown.alloc _).alloc _).alloc _) ⟨wr.heap.size+1+1,0,none⟩ 1 1 (flat [(t,a,i)]) rfl rfl (by have:=zoP ((wr.alloc (.cells #[.int .i64 t,.int .i64 a,.int .i64 i] 103)).alloc (.cells #[.int .i64 t,.int .i64 a,.int .i64 i] 103)) t a i;simpa using this) (zba _) (by unfold maxLen;omega) (by omega) (by simp;omega) ?_;intro v' w1 hown1 hgr1 hnil1));have hB1:=(((hbel.alloc hsz _).alloc (by simp;omega) _).alloc (by simp;omega) _).grown hgr1 (by simp;omega) (fun m hm=>(hown.lt m hm).1);go_roundw
     case rel=>exact⟨k+1,by omega,by go_num,by rw[zds _ l k _ HT.out,HQ.out];simpa[zaP]using hown1,hB1⟩
     case measure=>simp[intOf];omega
  ·go_wp2;go_ret;exact⟨_,rfl,by rw[List.take_of_length_le (by omega)]at hown;exact zdT hown rfl,hbel⟩
theorem zs6(l:List Op3)(ad:Option Addr)(b off cap:Nat)(c:Nat)(f:Nat->Bool)(hin:∀o∈l,1<=o.1/\o.1<=6)(w:World)(hlen:l.length<=140737488351)(ha:0<l.length->ad=some ⟨b,off,none⟩)(hbB:b<w.heap.size\/l=[])(hops:zd4 w b off l)(hc:∀j,j<7->w.cell? ⟨c,j,none⟩=some (.bool (f j)))(hcl:c<w.heap.size):Calls Tryz.prog 118 #[.slice ad l.length cap,.func (.func 119) #[] #[.pointer (some ⟨c,0,none⟩)]] w fun e w'=>∃v,e=.returned v/\zai w' v (l.filter (fun o:Op3=>f o.1.toNat))/\Below w.heap.size w w':=by
 go_enter Tryz.func118,Tryz.ntmps118;go_wp2
 go_loopw [5,10] (fun v5 v10 wr=>∃k:Nat,k<=l.length/\v10=.int .i64 k/\wr.ownsRow w.heap.size 103 3 v5 ((l.take k).filter (fun o:Op3=>f o.1.toNat)).length (flat ((l.take k).filter (fun o:Op3=>f o.1.toNat)))/\Below w.heap.size w wr) (fun _ v10 _=>l.length-(intOf v10).toNat)
 case atStart=>exact⟨0,Nat.zero_le _,rfl,World.ownsRow_nil _ _ _ _,Below.refl _ _⟩
 case round =>
  obtain⟨k,hk,rfl,hown,hbel⟩:=hrel;by_cases hlt:k<l.length
  ·obtain rfl:=ha (by omega);obtain⟨c0,c1,c2⟩:=hops k hlt
   have hb1:b<w.heap.size:=by
    rcases hbB with h | h
    ·exact h
    ·subst h;simp at hlt
   rw[<-hbel.cell (p:=⟨b,off+k*3,none⟩) hb1]at c0;rw[<-hbel.cell (p:=⟨b,off+k*3+1,none⟩) hb1]at c1;rw[<-hbel.cell (p:=⟨b,off+k*3+2,none⟩) hb1]at c2;obtain⟨⟨t,a,i⟩,ho⟩:∃o:Op3,l.getD k (0,0,0)=o:=⟨_,rfl⟩;rw[ho]at c0 c1 c2;have hto:=hin (t,a,i) (by rw[<-ho];simp[List.getD,List.getElem?_eq_getElem hlt]);have HT:Hid (l.take (k+1)=l.take k++[(t,a,i)]):=by show l.take (k+1)=l.take k++[(t,a,i)];rw[List.take_succ_eq_append_getElem hlt,<-ho];simp[List.getD,List.getElem?_eq_getElem hlt]
   have hsz:=hbel.size;have hcw:∀j,j<7->wr.cell? ⟨c,j,none⟩=some (.bool (f j)):=fun j hj=>by rw[hbel.cell (p:=⟨c,j,none⟩) hcl];exact hc j hj
   have HCW:Hid (∀j,j<7->wr.cell? ⟨c,j,none⟩=some (.bool (f j))):=hcw;have HC0:Hid (∀j,j<7->w.cell? ⟨c,j,none⟩=some (.bool (f j))):=hc;clear hcw hc;obtain⟨ht1,ht6⟩:=hto;simp only at ht1 ht6;have hkl:=zoZ (fun o:Op3=>f o.1.toNat) l k;clear ho hops ha hbB;simp only at c0 c1 c2;cases hq:(fun o:Op3=>f o.1.toNat) (t,a,i)with
   | false =>
     have HQ:Hid ((fun o:Op3=>f o.1.toNat) (t,a,i)=false):=hq;simp only at hq;go_wp2_with (go_at_call 119;refine(done1_any t a i c f _ (fun j hj=>by rw[World.cell?_alloc_lt _ _ ⟨c,j,none⟩ (by simp;omega)];exact HCW.out j hj) (by simp;omega) ht1 ht6).mono ?_;rintro e w' ⟨rfl,rfl⟩);go_roundw
     case rel=>exact⟨k+1,by omega,by go_num,by rw[zds _ l k _ HT.out,HQ.out];simpa using (hown.alloc _).alloc _,(hbel.alloc (by omega) _).alloc (by simp;omega) _⟩
     case measure=>simp[intOf];omega
   | true =>
     have HQ:Hid ((fun o:Op3=>f o.1.toNat) (t,a,i)=true):=hq;simp only at hq;obtain⟨i0,hi,hz0,hs0,hy0⟩:=info_parts zmo;have HI:Hid (Tryz.prog.info? 103=some i0/\i0.zero=some (.agg #[.int .i64 0,.int .i64 0,.int .i64 0])/\i0.size=3/\i0.bytes=24):=⟨hi,hz0,hs0,hy0⟩;clear hi hz0 hs0 hy0;go_wp2_with (first | (go_at_call 119;refine(done1_any t a i c f _ (fun j hj=>by rw[World.cell?_alloc_lt _ _ ⟨c,j,none⟩ (by simp;omega)];exact HCW.out j hj) (by simp;omega) ht1 ht6).mono ?_;rintro e w' ⟨rfl,rfl⟩) | (at_builtin;refine wpList_append_own _ rfl (.tmp 17) (.tmp 19) 28 rfl w.heap.size 103 i0 (.agg #[.int .i64 0,.int .i64 0,.int .i64 0]) 3 24 Tryz.underlying28 HI.out.1 HI.out.2.1 HI.out.2.2.1 HI.out.2.2.2 rfl (by decide) u5 ((l.take k).filter (fun o:Op3=>f o.1.toNat)).length (flat ((l.take k).filter (fun o:Op3=>f o.1.toNat))) rfl (((hown.alloc _).alloc _).alloc _) ⟨wr.heap.size+1+1,0,none⟩ 1 1 (flat [(t,a,i)]) rfl rfl (by have:=zoP ((wr.alloc (.cells #[.int .i64 t,.int .i64 a,.int .i64 i] 103)).alloc (.cells #[.int .i64 t,.int .i64 a,.int .i64 i] 103)) t a i;simpa using this) (zba _) (by unfold maxLen;omega) (by omega) (by simp;omega) ?_;intro v' w1 hown1 hgr1 hnil1));have hB1:=(((hbel.alloc hsz _).alloc (by simp;omega) _).alloc (by simp;omega) _).grown hgr1 (by simp;omega) (fun m hm=>(hown.lt m hm).1);go_roundw
     case rel=>exact⟨k+1,by omega,by go_num,by rw[zds _ l k _ HT.out,HQ.out];simpa[zaP]using hown1,hB1⟩
     case measure=>simp[intOf];omega
  ·go_wp2;go_ret;exact⟨_,rfl,by rw[List.take_of_length_le (by omega)]at hown;exact zdT hown rfl,hbel⟩
end Go.Proofs.YthlhgiihngcobaaGreatDoor
namespace Go.Proofs.YthlhgiihngcobaaGreatDoor
open Go.RowKit
def zci(l:List Op3)(t:Nat):Bool:=l.any fun o=>o.1 == (t:Int) && o.2.1 == 3
def doneL(l:List Op3):List Op3:=l.filter fun o=>zci l o.1.toNat
def ofL(l:List Op3)(tx:Int):List Op3:=l.filter fun o=>o.1 == tx
theorem zhO(l:List Op3)(o:Op3)(t:Nat):zci (l++[o]) t=(zci l t || (o.1 == (t:Int) && o.2.1 == 3)):=by simp[zci]
theorem zaQ{l:List Op3}(h:(chk l).2=0):l.length<=40:=by
 unfold chk at h;split at h
 ·simp at h
 ·omega
theorem chk_ops{l:List Op3}(h:(chk l).2=0):∀o∈l,isOpB o=true:=by rw[zfN l (zaQ h)]at h;exact znT l [] h
def zdZ(w:World)(B:Nat)(l:List Op3):Prop:=∀j,j<7->w.cell? ⟨B,j,none⟩=some (.bool (zci l j))/\w.frozen? ⟨B,j,none⟩=false
theorem zdZ.lt{w:World}{B:Nat}{l:List Op3}(h:zdZ w B l):B<w.heap.size:=World.block_lt_of_cell? w _ (h 0 (by omega)).1
theorem zqg(l:List Op3)(w:World):zdZ (w.alloc (.cells #[.bool false,.bool false,.bool false,.bool false,.bool false,.bool false,.bool false] 25)) w.heap.size (List.take 0 l):=by
 intro j hj
 match j,hj with
 | 0,_=>exact⟨by simp[zci],by simp⟩
 | 1,_=>exact⟨by simp[zci],by simp⟩
 | 2,_=>exact⟨by simp[zci],by simp⟩
 | 3,_=>exact⟨by simp[zci],by simp⟩
 | 4,_=>exact⟨by simp[zci],by simp⟩
 | 5,_=>exact⟨by simp[zci],by simp⟩
 | 6,_=>exact⟨by simp[zci],by simp⟩
theorem zdZ.same{w:World}{B:Nat}{l:List Op3}{t a i:Int}(h:zdZ w B l)(ha:a≠3)(o1:Obj):zdZ (w.alloc o1) B (l++[(t,a,i)]):=by
 have hlt:=h.lt;intro j hj;obtain⟨hc,hf⟩:=h j hj;constructor
 ·rw[World.cell?_alloc_lt _ _ ⟨B,j,none⟩ hlt,zhO,hc];simp[ha]
 ·rw[World.frozen?_alloc_old _ _ ⟨B,j,none⟩ (by simp;omega)];exact hf
theorem zdZ.step{w:World}{B:Nat}{l:List Op3}{t i:Int}(h:zdZ w B l)(h1:1<=t)(h6:t<=6)(o1:Obj):zdZ ((w.setCell ⟨B,t.toNat,none⟩ (.bool true)).alloc o1) B (l++[(t,3,i)]):=by
 have hlt:=h.lt;intro j hj;obtain⟨hc,hf⟩:=h j hj;obtain⟨hct,_⟩:=h t.toNat (by omega);constructor
 ·rw[World.cell?_alloc_lt _ _ ⟨B,j,none⟩ (by simp;omega),zhO];by_cases hjt:j=t.toNat
  ·subst hjt;rw[World.cell?_setCell_same _ _ _ hct,show((t.toNat:Nat):Int)=t by omega];simp
  ·rw[World.cell?_setCell_other _ _ _ _ (by intro he;injection he with _ he2 _;exact hjt he2.symm),hc];have:(t == (j:Int))=false:=by simp;omega
   simp[this]
 ·rw[World.frozen?_alloc_old _ _ ⟨B,j,none⟩ (by simp;omega)];simpa using hf
theorem done_ok(l:List Op3)(v:Value)(w:World)(h:zai w v l)(hc:(chk l).2=0):Calls Tryz.prog 51 #[v] w fun e w'=>∃v',e=.returned (.tuple #[v',.nilIface])/\zai w' v' (doneL l)/\Below w.heap.size w w':=by
 have hl40:=zaQ hc;have hopsv:=chk_ops hc;have HV:Hid (∀o∈l,isOpB o=true):=hopsv;clear hopsv;have hI:=h;obtain⟨ad,b,off,cap,rfl,ha,hn,hbB,hops⟩:=h;go_enter Tryz.func51,Tryz.ntmps51;go_wp2_with (go_at_call 81;refine(check_ok l _ _ hI hc).mono ?_;rintro e w1 ⟨rfl,hb1⟩)
 go_loopw [19] (fun v19 wr=>∃k:Nat,k<=l.length/\v19=.int .i64 k/\zdZ wr w1.heap.size (l.take k)/\Below w1.heap.size w1 wr) (fun v19 _=>l.length-(intOf v19).toNat)
 case atStart=>exact⟨0,Nat.zero_le _,rfl,zqg l w1,(Below.refl _ _).alloc (Nat.le_refl _) _⟩
 case round =>
  obtain⟨k,hk,rfl,hcm,hbel⟩:=hrel;have hs1:=hb1.size;have hsz:w1.heap.size<wr.heap.size:=hcm.lt;by_cases hlt:k<l.length
  ·obtain rfl:=ha (by omega);obtain⟨c0,c1,c2⟩:=hops k hlt
   have hb0:b<w.heap.size:=by
    rcases hbB with h | h
    ·exact h
    ·subst h;simp at hlt
   rw[<-hb1.cell (p:=⟨b,off+k*3,none⟩) hb0,<-hbel.cell (p:=⟨b,off+k*3,none⟩) (by simp;omega)]at c0;rw[<-hb1.cell (p:=⟨b,off+k*3+1,none⟩) hb0,<-hbel.cell (p:=⟨b,off+k*3+1,none⟩) (by simp;omega)]at c1;rw[<-hb1.cell (p:=⟨b,off+k*3+2,none⟩) hb0,<-hbel.cell (p:=⟨b,off+k*3+2,none⟩) (by simp;omega)]at c2;obtain⟨⟨t,a,i⟩,ho⟩:∃o:Op3,l.getD k (0,0,0)=o:=⟨_,rfl⟩;rw[ho]at c0 c1 c2;have hto:=zbu (HV.out (t,a,i) (by rw[<-ho];simp[List.getD,List.getElem?_eq_getElem hlt]));have HT:Hid (l.take (k+1)=l.take k++[(t,a,i)]):=by show l.take (k+1)=l.take k++[(t,a,i)];rw[List.take_succ_eq_append_getElem hlt,<-ho];simp[List.getD,List.getElem?_eq_getElem hlt]
   obtain⟨ht1,ht6⟩:=hto;clear ho hops ha hbB hn hI hc;simp only at c0 c1 c2 ht1 ht6;by_cases h3:a=3
   ·subst h3;obtain⟨hc1,hc2⟩:=hcm t.toNat (by omega);go_wp2;go_roundw
    case rel=>exact⟨k+1,by omega,by go_num,by rw[HT.out];exact hcm.step ht1 ht6 _,(hbel.setCell (by simp) _).alloc (by simp;omega) _⟩
    case measure=>simp[intOf];omega
   ·have h3':(a == 3)=false:=by simpa using h3
    have H3:Hid (a≠3):=h3;clear h3;go_wp2;go_roundw
    case rel=>exact⟨k+1,by omega,by go_num,by rw[HT.out];exact hcm.same H3.out _,hbel.alloc (by omega) _⟩
    case measure=>simp[intOf];omega
  ·have hcm':zdZ wr w1.heap.size l:=by rw[List.take_of_length_le (by omega)]at hcm;exact hcm
   have hbw:Below w.heap.size w wr:=hb1.trans (hbel.mono hs1);go_wp2_with (go_at_call 118;refine(zs6 l ad b off cap w1.heap.size (zci l) (fun o ho=>zbu (HV.out o ho)) _ (by omega) ha (by rcases hbB with h | h;exact .inl (by omega);exact .inr h) (hops.below hbw hbB) (fun j hj=>(hcm' j hj).1) hsz).mono ?_;rintro e w2 ⟨v2,rfl,hI2,hb2⟩);go_ret2;exact⟨_,rfl,hI2,hbw.trans (hb2.mono hbw.size)⟩
theorem zCa(l:List Op3)(v:Value)(tx:Int)(w:World)(h:zai w v l)(hc:(chk l).2=0)(h1:1<=tx)(h6:tx<=6):Calls Tryz.prog 126 #[v,.int .i64 tx] w fun e w'=>∃v',e=.returned (.tuple #[v',.nilIface])/\zai w' v' (ofL l tx)/\Below w.heap.size w w':=by have hl40:=zaQ hc;have hI:=h;obtain⟨ad,b,off,cap,rfl,ha,hn,hbB,hops⟩:=h;go_enter Tryz.func126,Tryz.ntmps126;go_wp2_with (first | (go_at_call 81;refine(check_ok l _ _ hI hc).mono ?_;rintro e w1 ⟨rfl,hb1⟩;have hs1:=hb1.size) | (go_at_call 118;refine(zAe l ad b off cap w1.heap.size tx _ (by omega) ha (by rcases hbB with h | h;exact .inl (by simp;omega);exact .inr h) ((hops.below hb1 hbB).below ((Below.refl w1.heap.size w1).alloc (Nat.le_refl _) _) (by rcases hbB with h | h;exact .inl (by omega);exact .inr h)) (by simp) (by simp)).mono ?_;rintro e w2 ⟨v2,rfl,hI2,hb2⟩) | go_in);go_ret2;exact⟨_,rfl,hI2,(hb1.alloc (by omega) _).trans (hb2.mono (by simp;omega))⟩
end Go.Proofs.YthlhgiihngcobaaGreatDoor
