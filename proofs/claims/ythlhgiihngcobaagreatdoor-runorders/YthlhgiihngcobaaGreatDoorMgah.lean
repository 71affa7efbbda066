/-
  PROVED HERE: plain facts, with no word of the program; plain facts, with no word of the program; plain facts, with no word of the program; plain facts, with no word of the program.
  Conditions: none but those that each theorem's own premises say.
-/
import Derived.Test.YthlhgiihngcobaaGreatDoorMgag
set_option maxHeartbeats 32000000
set_option maxRecDepth 100000
namespace Go.Proofs.YthlhgiihngcobaaGreatDoor
def holdB(s:zaK)(t:Nat)(e:zaa):Bool:=e.2 == (t:Int) && s e.1.toNat
def zau(l:List zaa)(s:zaK)(t:Nat):Bool:=s t && !l.any (holdB s t)
def nextN(l:List zaa)(s:zaK):Nat :=if zau l s 1 then 1 else if zau l s 2 then 2 else if zau l s 3 then 3 else if zau l s 4 then 4 else if zau l s 5 then 5 else if zau l s 6 then 6 else 0
theorem zc5{l:List zaa}{s:zaK}{t:Nat}(h1:1<=t)(h6:t<=6)(hf:zau l s t=true)(hb:∀j,1<=j->j<t->zau l s j=false):nextN l s=t:=by
 unfold nextN;rcases(show t=1\/t=2\/t=3\/t=4\/t=5\/t=6 by omega)with e | e | e | e | e | e <;> subst e
 ·simp[hf]
 ·simp[hf,hb 1 (by omega) (by omega)]
 ·simp[hf,hb 1 (by omega) (by omega),hb 2 (by omega) (by omega)]
 ·simp[hf,hb 1 (by omega) (by omega),hb 2 (by omega) (by omega),hb 3 (by omega) (by omega)]
 ·simp[hf,hb 1 (by omega) (by omega),hb 2 (by omega) (by omega),hb 3 (by omega) (by omega),hb 4 (by omega) (by omega)]
 ·simp[hf,hb 1 (by omega) (by omega),hb 2 (by omega) (by omega),hb 3 (by omega) (by omega),hb 4 (by omega) (by omega),hb 5 (by omega) (by omega)]
theorem zfY{l:List zaa}{s:zaK}(hb:∀j,1<=j->j<7->zau l s j=false):nextN l s=0:=by unfold nextN;simp[hb 1 (by omega) (by omega),hb 2 (by omega) (by omega),hb 3 (by omega) (by omega),hb 4 (by omega) (by omega),hb 5 (by omega) (by omega),hb 6 (by omega) (by omega)]
theorem next_cases(l:List zaa)(s:zaK):(nextN l s=0/\∀j,1<=j->j<7->zau l s j=false)\/(1<=nextN l s/\nextN l s<=6/\zau l s (nextN l s)=true/\∀j,1<=j->j<nextN l s->zau l s j=false):=by
 have hw:(∀j,1<=j->j<7->zau l s j=false)\/∃t,1<=t/\t<=6/\zau l s t=true/\∀j,1<=j->j<t->zau l s j=false:=by
  have:∀n,n<=7->(∀j,1<=j->j<n->zau l s j=false)\/∃t,1<=t/\t<n/\zau l s t=true/\∀j,1<=j->j<t->zau l s j=false:=by
   intro n
   induction n with
   | zero=>intro _;exact .inl fun j _ h=>absurd h (by omega)
   | succ n ih =>
     intro hn;rcases ih (by omega)with h | ⟨t,a,b,c⟩
     ·by_cases h0:n=0
      ·exact .inl fun j h1 h2=>absurd h1 (by omega)
      ·cases hf:zau l s n with
       | false =>
         refine .inl fun j h1 h2=>?_;rcases Nat.lt_or_ge j n with h' | h'
         ·exact h j h1 h'
         ·rw[show j=n by omega];exact hf
       | true=>exact .inr ⟨n,by omega,by omega,hf,h⟩
     ·exact .inr ⟨t,a,by omega,c⟩
  rcases this 7 (by omega)with h | ⟨t,a,b,c,d⟩
  ·exact .inl h
  ·exact .inr ⟨t,a,by omega,c,d⟩
 rcases hw with h | ⟨t,a,b,c,d⟩
 ·exact .inl ⟨zfY h,h⟩
 ·rw[zc5 a b c d];exact .inr ⟨a,b,c,d⟩
def zcL(s:zaK)(t:Nat)(x:Bool):zaK:=fun k=>if k=t then x else s k
def zcs(s:zaK):Nat:=(s 0).toNat+(s 1).toNat+(s 2).toNat+(s 3).toNat+(s 4).toNat+(s 5).toNat+(s 6).toNat
def zb4(s:zaK):Bool:=(List.range 7).any s
theorem zgF{s:zaK}{t:Nat}(ht:t<7)(h:s t=true):zcs (zcL s t false)+1=zcs s:=by unfold zcs zcL;rcases(show t=0\/t=1\/t=2\/t=3\/t=4\/t=5\/t=6 by omega)with e | e | e | e | e | e | e <;> subst e <;> simp[h] <;> omega
theorem zdx{s:zaK}(h:zb4 s=true):0<zcs s:=by unfold zb4 at h;obtain⟨k,hk,hs⟩:=List.any_eq_true.1 h;have:=List.mem_range.1 hk;unfold zcs;rcases(show k=0\/k=1\/k=2\/k=3\/k=4\/k=5\/k=6 by omega)with e | e | e | e | e | e | e <;> subst e <;> rw[hs] <;> simp only[Bool.toNat_true] <;> omega
theorem cnt_le(s:zaK):zcs s<=7:=by
 unfold zcs;have h:∀b:Bool,b.toNat<=1:=by decide
 have:=h (s 0);have:=h (s 1);have:=h (s 2);have:=h (s 3);have:=h (s 4);have:=h (s 5);have:=h (s 6);omega
def orderGo(l:List zaa):Nat->zaK->List Int->Option (List Int)
 | 0,_,out=>some out
 | n+1,s,out=>if zb4 s=true then(if nextN l s=0 then none else orderGo l n (zcL s (nextN l s) false) (out++[(nextN l s:Int)]))else some out
def zbm(l:List zaa):Option (List Int):=orderGo l 7 (namedS l) []
theorem zeC{l:List zaa}{n:Nat}{s:zaK}{out:List Int}(h:zb4 s=false):orderGo l n s out=some out:=by
 cases n with
 | zero=>rfl
 | succ n=>simp[orderGo,h]
theorem zdH{l:List zaa}{n:Nat}{s:zaK}{out:List Int}(hn:zcs s<=n)(h:zb4 s=true)(h0:nextN l s=0):orderGo l n s out=none:=by
 have:=zdx h
 match n,hn with
 | 0,hn=>omega
 | n+1,_=>simp[orderGo,h,h0]
theorem zeT{l:List zaa}{n:Nat}{s:zaK}{out:List Int}(hn:zcs s<=n)(h:zb4 s=true)(h0:nextN l s≠0):orderGo l n s out=orderGo l (n-1) (zcL s (nextN l s) false) (out++[(nextN l s:Int)]):=by
 have:=zdx h
 match n,hn with
 | 0,hn=>omega
 | n+1,_=>simp[orderGo,h,h0]
end Go.Proofs.YthlhgiihngcobaaGreatDoor
namespace Go.Proofs.YthlhgiihngcobaaGreatDoor
theorem zaI(s:zaK)(t:Nat)(x:Bool):zcL s t x t=x:=by simp[zcL]
theorem zap(s:zaK){t y:Nat}(x:Bool)(h:y≠t):zcL s t x y=s y:=by simp[zcL,h]
end Go.Proofs.YthlhgiihngcobaaGreatDoor
namespace Go.Proofs.YthlhgiihngcobaaGreatDoor
theorem znz{l:List zaa}{x y:Nat}(h:zmu l x y=true):((x:Int),(y:Int))∈l:=by unfold zmu at h;obtain⟨e,he,h2⟩:=List.any_eq_true.1 h;simp only[Bool.and_eq_true,beq_iff_eq]at h2;obtain⟨a,b⟩:=e;simp only at h2;rw[h2.1,h2.2]at he;exact he
def zeN(l:List zaa):Prop:=∀e∈l,(1<=e.1/\e.1<=6)/\(1<=e.2/\e.2<=6)
theorem zeN.nat{l:List zaa}(h:zeN l){e:zaa}(he:e∈l):∃x y:Nat,e=((x:Int),(y:Int))/\(1<=x/\x<=6)/\(1<=y/\y<=6):=by obtain⟨a,b⟩:=e;have h1:=h _ he;simp only at h1;exact⟨a.toNat,b.toNat,by rw[Int.toNat_of_nonneg (by omega),Int.toNat_of_nonneg (by omega)],by omega,by omega⟩
structure znv(l:List zaa)(s:zaK)(out:List Int):Prop where
 deal:∀x∈out,∃t:Nat,x=(t:Int)/\1<=t/\t<=6/\s t=false
 once:out.Nodup
 back:∀x y:Nat,((x:Int),(y:Int))∈l->(y:Int)∈out->∃i j:Nat,i<j/\out[i]? = some (x:Int)/\out[j]? = some (y:Int)
 all:∀x:Nat,namedS l x=true->s x=true\/(x:Int)∈out
theorem made_start(l:List zaa):znv l (namedS l) [] where
 deal:=fun _ h=>by cases h
 once:=List.nodup_nil
 back:=fun _ _ _ h=>by cases h
 all:=fun _ h=>.inl h
theorem named_from{l:List zaa}{x y:Nat}(h:((x:Int),(y:Int))∈l):namedS l x=true:=List.any_eq_true.2 ⟨_,h,by simp⟩
theorem named_to{l:List zaa}{x y:Nat}(h:((x:Int),(y:Int))∈l):namedS l y=true:=List.any_eq_true.2 ⟨_,h,by simp⟩
theorem zbi{l:List zaa}{s:zaK}{t:Nat}(h:zau l s t=true):s t=true/\∀x:Nat,((x:Int),(t:Int))∈l->s x=false:=by unfold zau at h;simp only[Bool.and_eq_true,Bool.not_eq_true']at h;refine⟨h.1,fun x hx=>?_⟩;have:=List.any_eq_false.1 h.2 _ hx;simpa[holdB]using this
theorem znv.next{l:List zaa}{s:zaK}{out:List Int}(h:znv l s out){t:Nat}(h1:1<=t)(h6:t<=6)(hf:zau l s t=true):znv l (zcL s t false) (out++[(t:Int)]):=by
 obtain⟨hs,hfree⟩:=zbi hf
 have hnot:(t:Int) ∉ out:=fun hm=>by
  obtain⟨u,hu,_,_,hsu⟩:=h.deal _ hm;have:t=u:=by omega
  subst this;rw[hs]at hsu;cases hsu
 refine⟨fun x hx=>?_,?_,fun x y he hy=>?_,fun x hx=>?_⟩
 ·rcases List.mem_append.1 hx with hx | hx
  ·obtain⟨u,hu,a,b,c⟩:=h.deal x hx;refine⟨u,hu,a,b,?_⟩;by_cases e:u=t
   ·rw[e,zaI]
   ·rw[zap s false e];exact c
  ·rw[List.mem_singleton.1 hx];exact⟨t,rfl,h1,h6,zaI s t false⟩
 ·rw[List.nodup_append];refine⟨h.once,by simp,fun a ha b hb=>?_⟩;rw[List.mem_singleton.1 hb];exact fun e=>hnot (e ▸ha)
 ·by_cases hyo:(y:Int)∈out
  ·obtain⟨i,j,hij,hi,hj⟩:=h.back x y he hyo;have hjl:=(List.getElem?_eq_some_iff.1 hj).1;exact⟨i,j,hij,by rw[List.getElem?_append_left (by omega)];exact hi,by rw[List.getElem?_append_left hjl];exact hj⟩
  ·have hyt:y=t:=by
    rcases List.mem_append.1 hy with hy | hy
    ·exact absurd hy hyo
    ·have:=List.mem_singleton.1 hy;omega
   subst hyt;have hx0:=hfree x he
   have hxo:(x:Int)∈out:=by
    rcases h.all x (named_from he)with hh | hh
    ·rw[hx0]at hh;cases hh
    ·exact hh
   obtain⟨i,hi⟩:=List.getElem?_of_mem hxo;have hil:=(List.getElem?_eq_some_iff.1 hi).1;exact⟨i,out.length,hil,by rw[List.getElem?_append_left hil];exact hi,by simp⟩
 ·rcases h.all x hx with hh | hh
  ·by_cases e:x=t
   ·exact .inr (by rw[e];simp)
   ·exact .inl (by rw[zap s false e];exact hh)
  ·exact .inr (List.mem_append_left _ hh)
def znO(l:List zaa)(s:zaK):Prop:=(∃t:Nat,1<=t/\t<=6/\s t=true)/\∀t:Nat,1<=t->t<=6->s t=true->∃x:Nat,1<=x/\x<=6/\s x=true/\((x:Int),(t:Int))∈l
theorem order_goes{l:List zaa}(hr:zeN l):∀(n:Nat) (s:zaK) (out:List Int),zcs s<=n->(∀k,s k=true->1<=k/\k<=6)->znv l s out ->
  (∃o s',orderGo l n s out=some o/\znv l s' o/\zb4 s'=false)\/(orderGo l n s out=none/\∃s',znO l s'):=by
 intro n
 induction n with
 | zero =>
   intro s out hn hs hm;refine .inl ⟨out,s,rfl,hm,?_⟩;cases h:zb4 s with
   | false=>rfl
   | true=>have:=zdx h;omega
 | succ n ih =>
   intro s out hn hs hm;cases h:zb4 s with
   | false=>exact .inl ⟨out,s,zeC h,hm,h⟩
   | true =>
     rcases next_cases l s with⟨h0,hnone⟩ | ⟨h1,h6,hf,_⟩
     ·refine .inr ⟨zdH hn h h0,s,?_,fun t a b hst=>?_⟩
      ·unfold zb4 at h;obtain⟨k,_,hk⟩:=List.any_eq_true.1 h;exact⟨k,(hs k hk).1,(hs k hk).2,hk⟩
      ·have hft:=hnone t a (by omega);unfold zau at hft;rw[hst,Bool.true_and,Bool.not_eq_false']at hft;obtain⟨e,he,he2⟩:=List.any_eq_true.1 hft;obtain⟨x,y,rfl,hx,hy⟩:=hr.nat he;simp only[holdB,Bool.and_eq_true,beq_iff_eq,Int.toNat_natCast]at he2;have:y=t:=by omega
       subst this;exact⟨x,hx.1,hx.2,he2.2,he⟩
     ·have hst:=(zbi hf).1;rw[zeT hn h (by omega)];have hc:=zgF (s:=s) (t:=nextN l s) (by omega) hst;refine ih _ _ (by omega) (fun k hk=>?_) (hm.next h1 h6 hf);by_cases e:k=nextN l s
      ·rw[e,zaI]at hk;cases hk
      ·rw[zap s false e]at hk;exact hs k hk
theorem named_right{l:List zaa}(hr:zeN l)(k:Nat)(h:namedS l k=true):1<=k/\k<=6:=by unfold namedS at h;obtain⟨e,he,h2⟩:=List.any_eq_true.1 h;obtain⟨x,y,rfl,hx,hy⟩:=hr.nat he;simp only[Bool.or_eq_true,beq_iff_eq]at h2;omega
structure zno(l:List zaa)(o:List Int):Prop where
 deal:∀x∈o,∃t:Nat,x=(t:Int)/\1<=t/\t<=6
 once:o.Nodup
 back:∀x y:Nat,((x:Int),(y:Int))∈l->∃i j:Nat,i<j/\o[i]? = some (x:Int)/\o[j]? = some (y:Int)
theorem order_either{l:List zaa}(hr:zeN l):(∃o,zbm l=some o/\zno l o)\/(zbm l=none/\∃s,znO l s):=by
 rcases order_goes hr 7 (namedS l) [] (cnt_le _) (named_right hr) (made_start l)with⟨o,s',h1,h2,h3⟩ | ⟨h1,h2⟩
 ·refine .inl ⟨o,h1,fun x hx=>?_,h2.once,fun x y he=>h2.back x y he ?_⟩
  ·obtain⟨t,a,b,c,_⟩:=h2.deal x hx;exact⟨t,a,b,c⟩
  ·rcases h2.all y (named_to he)with hh | hh
   ·have:=named_right hr y (named_to he);unfold zb4 at h3;have:=List.any_eq_false.1 h3 y (List.mem_range.2 (by omega));rw[hh]at this;simp at this
   ·exact hh
 ·exact .inr ⟨h1,h2⟩
theorem zhy:∀ {o:List Int},o.Nodup->∀ {i j:Nat} {x:Int},o[i]? = some x->o[j]? = some x->i=j:=by
 intro o
 induction o with
 | nil=>intro _ i j x h;simp at h
 | cons a t ih =>
   intro hn i j x h k;obtain⟨ha,ht⟩:=List.nodup_cons.1 hn
   match i,j,h,k with
   | 0,0,_,_=>rfl
   | 0,j+1,h,k =>
     have e:a=x:=by simpa using h
     have:=List.mem_of_getElem? (show t[j]? = some x by simpa using k);exact absurd (e ▸this) ha
   | i+1,0,h,k =>
     have e:a=x:=by simpa using k
     have:=List.mem_of_getElem? (show t[i]? = some x by simpa using h);exact absurd (e ▸this) ha
   | i+1,j+1,h,k=>rw[ih ht (show t[i]? = some x by simpa using h) (show t[j]? = some x by simpa using k)]
end Go.Proofs.YthlhgiihngcobaaGreatDoor
namespace Go.Proofs.YthlhgiihngcobaaGreatDoor
theorem putL_mem(l:List Int)(n x:Int):x∈zhY l n↔x=n\/x∈l:=by
 induction l with
 | nil=>simp[zhY]
 | cons a r ih =>
   unfold zhY;split
   ·rename_i h;subst h;simp
   ·split
    ·simp
    ·rw[List.mem_cons,ih,List.mem_cons];constructor
     ·rintro(h | h | h)
      ·exact .inr (.inl h)
      ·exact .inl h
      ·exact .inr (.inr h)
     ·rintro(h | h | h)
      ·exact .inr (.inl h)
      ·exact .inl h
      ·exact .inr (.inr h)
theorem putL_rise{l:List Int}(h:l.Pairwise (· < ·))(n:Int):(zhY l n).Pairwise (· < ·):=by
 induction l with
 | nil=>simp[zhY]
 | cons a r ih =>
   obtain⟨h1,h2⟩:=List.pairwise_cons.1 h;unfold zhY;split
   ·exact h
   ·rename_i hne;split
    ·rename_i hlt;refine List.pairwise_cons.2 ⟨fun x hx=>?_,h⟩;rcases List.mem_cons.1 hx with rfl | hx
     ·exact hlt
     ·have:=h1 x hx;omega
    ·refine List.pairwise_cons.2 ⟨fun x hx=>?_,ih h2⟩;rcases(putL_mem r n x).1 hx with rfl | hx
     ·omega
     ·exact h1 x hx
def namedI(l:List zaa):List Int:=l.foldl (fun d e=>zhY (zhY d e.1) e.2) []
theorem zgP(l:List zaa)(e:zaa):namedI (l++[e])=zhY (zhY (namedI l) e.1) e.2:=by simp[namedI]
theorem zmS{P:List zaa->Prop}(h0:P [])(h1:∀l e,P l->P (l++[e]))(l:List zaa):P l:=by
 have:∀n (l:List zaa),l.length=n->P l:=by
  intro n
  induction n with
  | zero=>intro l hl;rw[List.length_eq_zero_iff.1 hl];exact h0
  | succ n ih =>
    intro l hl;have hne:l≠[]:=fun e=>by rw[e]at hl;simp at hl
    rw[<-List.dropLast_concat_getLast hne];exact h1 _ _ (ih _ (by rw[List.length_dropLast,hl];rfl))
 exact this _ l rfl
theorem zdn(l:List zaa)(x:Int):x∈namedI l↔∃e∈l,x=e.1\/x=e.2:=by
 refine zmS (P:=fun l=>x∈namedI l↔∃e∈l,x=e.1\/x=e.2) (by simp[namedI]) (fun l e ih=>?_) l;rw[zgP,putL_mem,putL_mem,ih];constructor
 ·rintro(h | h | ⟨f,hf,h⟩)
  ·exact⟨e,by simp,.inr h⟩
  ·exact⟨e,by simp,.inl h⟩
  ·exact⟨f,List.mem_append_left _ hf,h⟩
 ·rintro⟨f,hf,h⟩;rcases List.mem_append.1 hf with hf | hf
  ·exact .inr (.inr ⟨f,hf,h⟩)
  ·rw[List.mem_singleton.1 hf]at h;rcases h with h | h
   ·exact .inr (.inl h)
   ·exact .inl h
theorem zcU(l:List zaa)(t:Nat):namedS l t=inB (namedI l) (t:Int):=by
 rw[Bool.eq_iff_iff,zaT,zdn];unfold namedS;rw[List.any_eq_true];constructor
 ·rintro⟨e,he,h⟩;simp only[Bool.or_eq_true,beq_iff_eq]at h;exact⟨e,he,h.imp Eq.symm Eq.symm⟩
 ·rintro⟨e,he,h⟩;exact⟨e,he,by simp only[Bool.or_eq_true,beq_iff_eq];exact h.imp Eq.symm Eq.symm⟩
def zfH(d out:List Int):zaK:=fun t=>inB d (t:Int) && !inB out (t:Int)
theorem zlx{q r:zaa->Bool}:∀ {l:List zaa},(∀e∈l,q e=r e)->l.any q=l.any r:=by
 intro l
 induction l with
 | nil=>intro _;rfl
 | cons a t ih =>intro h;rw[List.any_cons,List.any_cons,h a (List.mem_cons_self ..),ih fun e he=>h e (List.mem_cons_of_mem _ he)]
theorem zmy{s:zaK}(h:zb4 s=false):zcs s=0:=by
 have hz:∀k,k<7->s k=false:=fun k hk=>by have:=List.any_eq_false.1 h k (List.mem_range.2 hk);simpa using this
 unfold zcs;rw[hz 0 (by omega),hz 1 (by omega),hz 2 (by omega),hz 3 (by omega),hz 4 (by omega),hz 5 (by omega),hz 6 (by omega)];rfl
end Go.Proofs.YthlhgiihngcobaaGreatDoor
