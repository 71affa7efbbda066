/-
  PROVED HERE: plain facts, with no word of the program; plain facts, with no word of the program; plain facts, with no word of the program; plain facts, with no word of the program.
  Conditions: none but those that each theorem's own premises say.
-/
import Derived.Test.YthlhgiihngcobaaGreatDoorMgao
set_option maxHeartbeats 32000000
set_option maxRecDepth 100000
namespace Go.Proofs.YthlhgiihngcobaaGreatDoor
def lastK(of:Int->Dl)(ds:List Int)(item:Int):Int:=ds.foldl (fun f t=>if inB (of t).wrote item=true then t else f) 0
theorem zd5{α β:Type}{f g:β->α->β}:∀(l:List α) (b:β),(∀b,∀x∈l,f b x=g b x)->l.foldl f b=l.foldl g b:=by
 intro l
 induction l with
 | nil=>intros;rfl
 | cons a l ih =>intro b h;rw[List.foldl_cons,List.foldl_cons,h b a (List.mem_cons_self ..)];exact ih _ fun b x hx=>h b x (List.mem_cons_of_mem _ hx)
theorem zpL{of:Int->Dl}{ds:List Int}{time:Int}(h:∀t∈ds,(of t).ended<time)(item:Int):zkJ ds of item time 0=lastK of ds item:=by
 unfold zkJ lastK;refine zd5 _ _ fun b x hx=>?_;have:=h x hx;have e:decide (time<=(of x).ended)=false:=by simp;omega
 rw[e,Bool.or_false];cases inB (of x).wrote item <;> simp
def okV(s:Kst)(t:Int)(r:Dl):Bool:=!zyP 1 s t r
end Go.Proofs.YthlhgiihngcobaaGreatDoor
namespace Go.Proofs.YthlhgiihngcobaaGreatDoor
theorem zzg:∀(l m:List Int),l.Nodup->(∀x∈l,x∈m)->l.length<=m.length:=by
 intro l
 induction l with
 | nil=>exact fun m _ _=>Nat.zero_le _
 | cons a l ih =>intro m hn hs;obtain⟨h1,h2⟩:=List.nodup_cons.1 hn;have ha:=hs a (List.mem_cons_self ..);have:=ih (m.erase a) h2 fun x hx=>(List.mem_erase_of_ne (show x≠a from fun e=>h1 (e ▸hx))).2 (hs x (List.mem_cons_of_mem _ hx));rw[List.length_erase_of_mem ha]at this;have hpos:=List.length_pos_of_mem ha;rw[List.length_cons];omega
theorem zzo{l:List Int}(hn:l.Nodup)(h:∀x∈l,1<=x/\x<=6):l.length<=6 :=zzg l [1,2,3,4,5,6] hn fun x hx=>by have:=h x hx;simp;omega
end Go.Proofs.YthlhgiihngcobaaGreatDoor
namespace Go.Proofs.YthlhgiihngcobaaGreatDoor
theorem zAg(kind:Int)(okF:Kst->Int->Dl->Bool)(l:List Op3):∀k,(∀t,((runK kind okF l k).of t).seen.length<=k/\((runK kind okF l k).of t).wrote.length<=k)/\(runK kind okF l k).looks.length<=k:=by
 intro k
 induction k with
 | zero=>exact⟨fun t=>⟨Nat.le_refl _,Nat.le_refl _⟩,Nat.le_refl _⟩
 | succ k ih =>
   obtain⟨h1,h2⟩:=ih
   have hn:∀t,(nowK (runK kind okF l k) k t).seen.length<=k/\(nowK (runK kind okF l k) k t).wrote.length<=k:=fun t=>by
    unfold nowK;split
    ·exact h1 t
    ·exact⟨Nat.zero_le _,Nat.zero_le _⟩
   show(∀t,((zeR kind okF (runK kind okF l k) k (opAt l k)).of t).seen.length<=k+1/\((zeR kind okF (runK kind okF l k) k (opAt l k)).of t).wrote.length<=k+1)/\(zeR kind okF (runK kind okF l k) k (opAt l k)).looks.length<=k+1;generalize runK kind okF l k=s at *
   have hput:∀(r:Dl) (u:Int),(r.seen.length<=k+1/\r.wrote.length<=k+1)->∀t,(setF s.of u r t).seen.length<=k+1/\(setF s.of u r t).wrote.length<=k+1:=fun r u hr t=>by
    unfold setF;split
    ·exact hr
    ·have:=h1 t;omega
   have hnt:=hn (opAt l k).1;unfold zeR;split
   ·refine⟨hput _ _ ⟨by simp;omega,by show(nowK s k _).wrote.length<=_;omega⟩,?_⟩;show(if _ then _ else _:List Op3).length<=_;split
    ·simp;omega
    ·omega
   ·split
    ·exact⟨hput _ _ ⟨by show(nowK s k _).seen.length<=_;omega,by simp;omega⟩,by show s.looks.length<=_;omega⟩
    ·split
     ·split
      ·exact⟨hput _ _ ⟨by show(nowK s k _).seen.length<=_;omega,by show(nowK s k _).wrote.length<=_;omega⟩,by show s.looks.length<=_;omega⟩
      ·exact⟨hput _ _ ⟨by omega,by omega⟩,by show s.looks.length<=_;omega⟩
     ·exact⟨hput _ _ ⟨by omega,by omega⟩,by show s.looks.length<=_;omega⟩
theorem zzV(kind:Int)(okF:Kst->Int->Dl->Bool){l:List Op3}(hc:(chk l).2=0):(runK kind okF l l.length).done.length<=6:=by have h:=zhS kind okF hc l.length (Nat.le_refl _);exact zzo h.once fun x hx=>⟨(h.comm x hx).2.1,(h.comm x hx).2.2.1⟩
end Go.Proofs.YthlhgiihngcobaaGreatDoor
namespace Go.Proofs.YthlhgiihngcobaaGreatDoor
def zsh(P:Int->Prop)(r:Int):Prop:=(r=0\/P r)/\∀u,P u->u<=r
theorem zwq{P:Int->Prop}(hp:∀u,P u->1<=u){r s:Int}(hr:zsh P r)(hs:zsh P s):r=s:=by
 rcases hr.1 with e | e
 ·rcases hs.1 with e' | e'
  ·omega
  ·have:=hr.2 _ e';have:=hp _ e';omega
 ·rcases hs.1 with e' | e'
  ·have:=hs.2 _ e;have:=hp _ e;omega
  ·have:=hs.2 _ e;have:=hr.2 _ e';omega
def zkT(done:List Int)(of:Int->Dl)(item below:Int):Int:=done.foldl (fun f t=>if inB (of t).wrote item=true/\t<below/\f<t then t else f) 0
theorem zs4(done:List Int)(of:Int->Dl)(t item below:Int):zkT (done++[t]) of item below=if inB (of t).wrote item=true/\t<below/\zkT done of item below<t then t else zkT done of item below:=by unfold zkT;rw[List.foldl_append];rfl
theorem zqC{of of':Int->Dl}{ds:List Int}(h:∀t∈ds,of t=of' t)(item below:Int):zkT ds of item below=zkT ds of' item below:=by unfold zkT;exact zd5 _ _ fun b x hx=>by rw[h x hx]
theorem zpn{of:Int->Dl}{ds:List Int}{t:Int}(h:t ∉ ds)(r:Dl)(item below:Int):zkT ds (setF of t r) item below=zkT ds of item below :=zqC (of:=setF of t r) (of':=of) (fun _ hu=>zaa _ _ fun e=>h (e ▸hu)) item below
theorem zsa{of:Int->Dl}{ds:List Int}{time below:Int}(hb:1<=below)(h:∀t∈ds,(of t).ended<time)(item:Int):zkJ ds of item time below=zkT ds of item below:=by
 unfold zkJ zkT;refine zd5 _ _ fun b x hx=>?_;have:=h x hx;have e:decide (time<=(of x).ended)=false:=by simp;omega
 rw[e,Bool.or_false,if_neg (show ¬below=0 by omega)];cases inB (of x).wrote item <;> simp
theorem zwK(done:List Int)(of:Int->Dl)(item below:Int):zsh (fun u=>u∈done/\u<below/\inB (of u).wrote item=true) (zkT done of item below):=by
 unfold zkT
 suffices H:∀(d:List Int) (f:Int),let r:=d.foldl (fun f t=>if inB (of t).wrote item=true/\t<below/\f<t then t else f) f;f<=r/\(r=f\/(r∈d/\r<below/\inB (of r).wrote item=true))/\∀u∈d,u<below->inB (of u).wrote item=true->u<=r from
  ⟨(H done 0).2.1,fun u hu=>(H done 0).2.2 u hu.1 hu.2.1 hu.2.2⟩
 intro d
 induction d with
 | nil=>exact fun f=>⟨Int.le_refl _,Or.inl rfl,fun u hu=>(by cases hu)⟩
 | cons a d ih =>
   intro f;dsimp only;rw[List.foldl_cons];obtain⟨h1,h2,h3⟩:=ih (if inB (of a).wrote item=true/\a<below/\f<a then a else f);refine⟨?_,?_,fun u hu hb hw=>?_⟩
   ·refine Int.le_trans ?_ h1;split
    ·omega
    ·exact Int.le_refl _
   ·rcases h2 with h2 | ⟨h2,h4⟩
    ·rw[h2];split
     ·rename_i hc;exact Or.inr ⟨List.mem_cons_self ..,hc.2.1,hc.1⟩
     ·exact Or.inl rfl
    ·exact Or.inr ⟨List.mem_cons_of_mem _ h2,h4⟩
   ·rcases List.mem_cons.1 hu with e | hu
    ·refine Int.le_trans ?_ h1;subst e;split
     ·exact Int.le_refl _
     ·rename_i hc;have:¬f<u:=fun hf=>hc ⟨hw,hb,hf⟩;omega
    ·exact h3 u hu hb hw
theorem ztY(of:Int->Dl)(item:Int){p:List Int}(hp:p.Pairwise (· < ·))(h1:∀u∈p,1<=u):zsh (fun u=>u∈p/\inB (of u).wrote item=true) (lastK of p item):=by
 unfold lastK
 suffices H:∀(d:List Int) (f:Int),d.Pairwise (· < ·)->(∀u∈d,f<u)->let r:=d.foldl (fun f t=>if inB (of t).wrote item=true then t else f) f;f<=r/\(r=f\/(r∈d/\inB (of r).wrote item=true))/\∀u∈d,inB (of u).wrote item=true->u<=r from by have:=H p 0 hp (fun u hu=>by have:=h1 u hu;omega);exact⟨this.2.1,fun u hu=>this.2.2 u hu.1 hu.2⟩
 intro d
 induction d with
 | nil=>exact fun f _ _=>⟨Int.le_refl _,Or.inl rfl,fun u hu=>(by cases hu)⟩
 | cons a d ih =>
   intro f hd hf;dsimp only;rw[List.foldl_cons];obtain⟨k1,k2⟩:=List.pairwise_cons.1 hd;have hfa:=hf a (List.mem_cons_self ..)
   obtain⟨h1,h2,h3⟩:=ih (if inB (of a).wrote item=true then a else f) k2 (fun u hu=>by
    split
    ·exact k1 u hu
    ·exact hf u (List.mem_cons_of_mem _ hu))
   refine⟨?_,?_,fun u hu hw=>?_⟩
   ·refine Int.le_trans ?_ h1;split
    ·omega
    ·exact Int.le_refl _
   ·rcases h2 with h2 | ⟨h2,h4⟩
    ·rw[h2];split
     ·rename_i hc;exact Or.inr ⟨List.mem_cons_self ..,hc⟩
     ·exact Or.inl rfl
    ·exact Or.inr ⟨List.mem_cons_of_mem _ h2,h4⟩
   ·rcases List.mem_cons.1 hu with e | hu
    ·refine Int.le_trans ?_ h1;subst e;rw[if_pos hw];exact Int.le_refl _
    ·exact h3 u hu hw
def okN(s:Kst)(t:Int)(r:Dl):Bool:=!zrd s t r
structure zpj(s:Kst):Prop where
 look:∀t,s.beg t=true->∀e∈(s.of t).seen,e.2.2≠t->e∈s.looks
 top:∀e∈s.looks,1<=e.1->e.2.2=zkT s.done s.of e.2.1 e.1
theorem zCi:zpj zBR:=⟨fun _ h=>(by cases h),fun _ h=>(by cases h)⟩
theorem zpj.now{s:Kst}(h:zpj s)(k t:Int):∀e∈(nowK s k t).seen,e.2.2≠t->e∈s.looks:=by
 unfold nowK;split
 ·rename_i hb;exact h.look t hb
 ·intro e he;cases he
theorem zpj.stay{s:Kst}(h:zpj s){t:Int}(hnd:t ∉ s.done)(r:Dl)(lk:List Op3)(hl:∀e∈s.looks,e∈lk)(hr:∀e∈r.seen,e.2.2≠t->e∈lk)
  (hk:∀e∈lk,e∈s.looks\/(1<=e.1->e.2.2=zkT s.done s.of e.2.1 e.1)):zpj ⟨s.done,setF s.of t r,setF s.beg t true,lk⟩:=by
 refine⟨fun u hu e he hne=>?_,fun e he h1=>?_⟩
 ·show e∈lk;have hu':setF s.beg t true u=true:=hu;have he':e∈(setF s.of t r u).seen:=he;by_cases e1:u=t
  ·subst e1;rw[setF_same]at he';exact hr e he' hne
  ·rw[zaa _ _ e1]at hu' he';exact hl _ (h.look u hu' e he' hne)
 ·show e.2.2=zkT s.done (setF s.of t r) e.2.1 e.1;rw[zpn hnd];rcases hk e he with hh | hh
  ·exact h.top e hh h1
  ·exact hh h1
theorem zpj.end_{s:Kst}(h:zpj s){t:Int}(hnd:t ∉ s.done)(r:Dl)(hr:∀e∈r.seen,e.2.2≠t->e∈s.looks)(hok:zrd s t r=false):zpj ⟨s.done++[t],setF s.of t r,setF s.beg t true,s.looks⟩:=by
 refine⟨fun u hu e he hne=>?_,fun e he h1=>?_⟩
 ·show e∈s.looks;have hu':setF s.beg t true u=true:=hu;have he':e∈(setF s.of t r u).seen:=he;by_cases e1:u=t
  ·subst e1;rw[setF_same]at he';exact hr e he' hne
  ·rw[zaa _ _ e1]at hu' he';exact h.look u hu' e he' hne
 ·show e.2.2=zkT (s.done++[t]) (setF s.of t r) e.2.1 e.1;have he':e∈s.looks:=he;rw[zs4,setF_same,zpn hnd,if_neg,<-h.top e he' h1];rintro⟨c1,c2,c3⟩;rw[<-h.top e he' h1]at c3;have:zrd s t r=true:=by unfold zrd;rw[List.any_eq_true];exact⟨e,he',by rw[c1,decide_eq_true c2,decide_eq_true c3];rfl⟩
  rw[this]at hok;cases hok
theorem zt0{l:List Op3}{k:Nat}{s:Kst}(h:zpj s)(hK:KOk l k s)(hc:zgK l)(hk:k<l.length):zpj (zeR 4 okN s k (opAt l k)):=by
 have hnd:=hK.free hc hk;have hnow:=h.now k (opAt l k).1;have htime:∀t∈s.done,(s.of t).ended<(k:Int):=fun t ht=>(hK.comm t ht).2.2.2.2.1;unfold zeR;split
 ·by_cases hw:inB (nowK s k (opAt l k).1).wrote (opAt l k).2.2=true
  ·refine h.stay hnd _ _ (fun e he=>?_) (fun e he hne=>?_) (fun e he=>?_)
   ·rw[if_neg (by rw[hw];simp)];exact he
   ·rw[if_neg (by rw[hw];simp)];rcases List.mem_append.1 he with he | he
    ·exact hnow e he hne
    ·rw[List.mem_singleton.1 he]at hne;refine absurd ?_ hne;unfold fromK;rw[if_pos hw]
   ·rw[if_neg (by rw[hw];simp)]at he;exact Or.inl he
  ·have hw':inB (nowK s k (opAt l k).1).wrote (opAt l k).2.2=false:=by simpa using hw
   refine h.stay hnd _ _ (fun e he=>?_) (fun e he hne=>?_) (fun e he=>?_)
   ·rw[if_pos ⟨rfl,hw'⟩];exact List.mem_append_left _ he
   ·rw[if_pos ⟨rfl,hw'⟩];rcases List.mem_append.1 he with he | he
    ·exact List.mem_append_left _ (hnow e he hne)
    ·exact List.mem_append_right _ he
   ·rw[if_pos ⟨rfl,hw'⟩]at he;rcases List.mem_append.1 he with he | he
    ·exact Or.inl he
    ·refine Or.inr fun h1=>?_;rw[List.mem_singleton.1 he]at h1 ⊢;dsimp only at h1 ⊢;unfold fromK;rw[if_neg hw,if_neg (show ¬(4:Int)=1 by decide),if_pos rfl];exact zsa h1 htime _
 ·have stay:zpj ⟨s.done,setF s.of (opAt l k).1 (nowK s k (opAt l k).1),setF s.beg (opAt l k).1 true,s.looks⟩:=h.stay hnd _ _ (fun e he=>he) hnow fun e he=>Or.inl he;split
  ·exact h.stay hnd _ _ (fun e he=>he) hnow fun e he=>Or.inl he
  ·split
   ·split
    ·rename_i hok;refine h.end_ hnd _ hnow ?_;unfold okN at hok;have:zrd s (opAt l k).1 (nowK s k (opAt l k).1)=false:=by simpa using hok
     exact this
    ·exact stay
   ·exact stay
theorem zz1{l:List Op3}(h:(chk l).2=0):∀k,k<=l.length->zpj (runK 4 okN l k):=by
 obtain⟨_,h2,h3⟩:=(zbq l).1 h;intro k
 induction k with
 | zero=>exact fun _=>zCi
 | succ k ih=>exact fun hk=>zt0 (ih (by omega)) (zhS 4 okN h k (by omega)) h3 (by omega)
def zjP(done:List Int):List Int:=[1,2,3,4,5,6].filter fun t=>inB done t
theorem zsi{done:List Int}(h:∀t∈done,1<=t/\t<=6)(t:Int):t∈zjP done↔t∈done:=by unfold zjP inB;rw[List.mem_filter];refine⟨fun hh=>by simpa using hh.2,fun hh=>⟨?_,by simpa using hh⟩⟩;have:=h t hh;simp;omega
theorem zql(done:List Int):(zjP done).Pairwise (· < ·):=List.Pairwise.sublist (List.filter_sublist ..) (by decide)
end Go.Proofs.YthlhgiihngcobaaGreatDoor
