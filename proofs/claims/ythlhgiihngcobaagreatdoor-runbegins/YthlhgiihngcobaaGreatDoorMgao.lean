/-
  PROVED HERE: plain facts, with no word of the program; nothing yet of package stamp; plain facts, with no word of the program; plain facts, with no word of the program.
  Conditions: none but those that each theorem's own premises say.
-/
import Derived.Test.YthlhgiihngcobaaGreatDoorMgah
import Derived.Test.YthlhgiihngcobaaGreatDoorMgaf
import Derived.Test.YthlhgiihngcobaaGreatDoorMgan
import Derived.Test.YthlhgiihngcobaaGreatDoorMgag
set_option maxHeartbeats 32000000
set_option maxRecDepth 100000
namespace Go.Proofs.YthlhgiihngcobaaGreatDoor
structure Stm where
 rd:Int->Int
 wr:Int->Int
 out:Int->Bool
 told:List Op3
 vict:List Int
def zAK:Stm:=⟨fun _=>0,fun _=>0,fun _=>false,[],[]⟩
def zmT(s:Stm)(o:Op3):Bool:=decide (o.1<s.wr o.2.2)
def zAD(leave:Bool)(s:Stm)(o:Op3):Bool:=if o.2.1=1 then zmT s o else if o.2.1=2 then decide (o.1<s.rd o.2.2) || (zmT s o && !leave)else false
def zg3(s:Stm)(t:Int):Stm:={ s with out:=setF s.out t true,vict:=s.vict++[t],told:=s.told++[(t,4,0)] }
def zyv(a b:Int):Int:=if a<b then b else a
def zb3(leave:Bool)(s:Stm)(o:Op3):Stm :=
 if s.out o.1=true then s else if zAD leave s o=true then zg3 s o.1
 else if o.2.1=1 then { s with rd:=setF s.rd o.2.2 (zyv (s.rd o.2.2) o.1),told:=s.told++[o] }
 else if o.2.1=2 then(if zmT s o=true then s else { s with wr:=setF s.wr o.2.2 o.1,told:=s.told++[o] })
 else { s with told:=s.told++[o] }
def zbf(leave:Bool)(l:List Op3):Stm:=l.foldl (zb3 leave) zAK
structure zpu(pre:List Op3)(s:Stm):Prop where
 ops:∀o∈s.told,isOpB o=true
 calm:zgK s.told
 ends:∀t,s.out t=false->zaz s.told t=true->zaz pre t=true
 rds:∀o∈s.told,o.2.1=1->o.1<=s.rd o.2.2
 wrs:∀o∈s.told,o.2.1=2->o.1<=s.wr o.2.2
 rise:s.told.Pairwise fun a b=>zgf a b=true->a.1<b.1
 vict:∀v∈s.vict,s.out v=true/\1<=v/\v<=6
 last:∀t,s.out t=true->∃q,ofL s.told t=q++[(t,4,0)]
 long:s.told.length<=pre.length/\s.vict.length<=pre.length
theorem stOk0:zpu [] zAK:=⟨fun o h=>(by cases h),List.Pairwise.nil,fun t _ h=>(by cases h),fun o h=>(by cases h),fun o h=>(by cases h),List.Pairwise.nil,fun v h=>(by cases h),fun t h=>(by cases h),Nat.le_refl _,Nat.le_refl _⟩
theorem zkY{l:List Op3}{x:Op3}(h:zgK l)(hx:zaz l x.1=false):zgK (l++[x]):=by refine List.pairwise_append.2 ⟨h,List.pairwise_singleton _ _,fun a ha b hb=>?_⟩;rw[List.mem_singleton.1 hb];rintro⟨e1,e2⟩;have:zaz l x.1=true:=List.any_eq_true.2 ⟨a,ha,by rw[e1,e2];simp⟩;rw[hx]at this;cases this
theorem zeJ(l:List Op3)(x:Op3)(t:Int):zaz (l++[x]) t=(zaz l t || (x.1 == t && zaM x.2.1)):=by unfold zaz;rw[List.any_append];simp
theorem zok(l:List Op3)(x:Op3)(t:Int):ofL (l++[x]) t=ofL l t++(if x.1=t then[x]else[]):=by
 unfold ofL;rw[List.filter_append];congr 1;by_cases h:x.1=t
 ·simp[h]
 ·simp[h]
theorem zlM{a b:Op3}(h:zgf a b=true):a.1≠b.1/\a.2.2=b.2.2/\(a.2.1=2\/b.2.1=2):=by simpa[zgf]using h
theorem isOp_kinds{o:Op3}(h:isOpB o=true):o.2.1=1\/o.2.1=2\/((o.2.1=3\/o.2.1=4)/\o.2.2=0):=by
 simp only[isOpB,zaM,Bool.and_eq_true,Bool.not_eq_true',Bool.or_eq_false_iff,decide_eq_false_iff_not]at h;obtain⟨⟨⟨⟨h1,h2⟩,h3⟩,h4⟩,h5⟩:=h;rcases(show o.2.1=1\/o.2.1=2\/o.2.1=3\/o.2.1=4 by omega)with e | e | e | e
 ·exact .inl e
 ·exact .inr (.inl e)
 ·rw[e]at h5;simp at h5;exact .inr (.inr ⟨.inl e,h5⟩)
 ·rw[e]at h5;simp at h5;exact .inr (.inr ⟨.inr e,h5⟩)
theorem zfw{o:Op3}(h:isOpB o=true)(hw:o.2.1=1\/o.2.1=2):1<=o.2.2:=by simp only[isOpB,zaM,Bool.and_eq_true]at h;have h5:=h.2;rcases hw with e | e <;> rw[e]at h5 <;> simp at h5 <;> omega
theorem zpu.tell{pre:List Op3}{s:Stm}{o:Op3}(h:zpu pre s)(hop:isOpB o=true)(hout:s.out o.1=false)(hend:zaz pre o.1=false)(f g:Int->Int)(hf:∀x,s.rd x<=f x)(hg:∀x,s.wr x<=g x)
  (ho1:o.2.1=1->o.1<=f o.2.2/\∀a∈s.told,a.2.1=2->a.2.2=o.2.2->a.1<=o.1) (ho2:o.2.1=2->o.1<=g o.2.2/\∀a∈s.told,(a.2.1=1\/a.2.1=2)->a.2.2=o.2.2->a.1<=o.1):zpu (pre++[o]) { s with rd:=f,wr:=g,told:=s.told++[o] }:=by
 have hne:zaz s.told o.1=false:=by
  cases he:zaz s.told o.1 with
  | false=>rfl
  | true=>rw[h.ends _ hout he]at hend;cases hend
 refine⟨fun x hx=>?_,zkY h.calm hne,fun t ht he=>?_,fun x hx hx1=>?_,fun x hx hx2=>?_,?_,h.vict,fun t ht=>?_,?_⟩
 ·rcases List.mem_append.1 hx with hx | hx
  ·exact h.ops x hx
  ·rw[List.mem_singleton.1 hx];exact hop
 ·show zaz (pre++[o]) t=true;have he':zaz (s.told++[o]) t=true:=he;rw[zeJ]at he' ⊢;rcases Bool.or_eq_true_iff.1 he' with h1 | h1
  ·rw[h.ends t ht h1];rfl
  ·rw[h1];simp
 ·rcases List.mem_append.1 hx with hx | hx
  ·exact Int.le_trans (h.rds x hx hx1) (hf _)
  ·rw[List.mem_singleton.1 hx]at hx1 ⊢;exact(ho1 hx1).1
 ·rcases List.mem_append.1 hx with hx | hx
  ·exact Int.le_trans (h.wrs x hx hx2) (hg _)
  ·rw[List.mem_singleton.1 hx]at hx2 ⊢;exact(ho2 hx2).1
 ·refine List.pairwise_append.2 ⟨h.rise,List.pairwise_singleton _ _,fun a ha b hb hodd=>?_⟩;rw[List.mem_singleton.1 hb]at hodd ⊢;obtain⟨e1,e2,e3⟩:=zlM hodd
  have hle:a.1<=o.1:=by
   rcases isOp_kinds hop with ho | ho | ⟨ho,hi⟩
   ·rcases e3 with e3 | e3
    ·exact(ho1 ho).2 a ha e3 e2
    ·omega
   ·rcases isOp_kinds (h.ops a ha)with ha1 | ha2 | ⟨ha3,hai⟩
    ·exact(ho2 ho).2 a ha (.inl ha1) e2
    ·exact(ho2 ho).2 a ha (.inr ha2) e2
    ·have:=zfw hop (.inr ho);omega
   ·rcases e3 with e3 | e3
    ·have:=zfw (h.ops a ha) (.inr e3);omega
    ·omega
  omega
 ·have hne2:t≠o.1:=fun e=>by rw[e,hout]at ht;cases ht
  obtain⟨q,hq⟩:=h.last t ht;refine⟨q,?_⟩;show ofL (s.told++[o]) t=_;rw[zok,if_neg (fun e=>hne2 e.symm),List.append_nil,hq]
 ·have:=h.long;show(s.told++[o]).length<=(pre++[o]).length/\s.vict.length<=(pre++[o]).length;simp only[List.length_append,List.length_singleton];omega
theorem zpu.skip{pre:List Op3}{s:Stm}(h:zpu pre s)(o:Op3):zpu (pre++[o]) s:=by
 refine⟨h.ops,h.calm,fun t ht he=>?_,h.rds,h.wrs,h.rise,h.vict,h.last,?_⟩
 ·rw[zeJ,h.ends t ht he];rfl
 ·have:=h.long;rw[List.length_append];omega
theorem zpu.gone{pre:List Op3}{s:Stm}{o:Op3}(h:zpu pre s)(hop:isOpB o=true)(hout:s.out o.1=false)(hend:zaz pre o.1=false):zpu (pre++[o]) (zg3 s o.1):=by
 have hne:zaz s.told o.1=false:=by
  cases he:zaz s.told o.1 with
  | false=>rfl
  | true=>rw[h.ends _ hout he]at hend;cases hend
 have hr:=za1 hop;have hab:isOpB (o.1,4,0)=true:=by simp[isOpB,zaM];omega
 refine⟨fun x hx=>?_,zkY (x:=(o.1,4,0)) h.calm hne,fun t ht he=>?_,fun x hx hx1=>?_,fun x hx hx2=>?_,?_,fun v hv=>?_,fun t ht=>?_,?_⟩
 ·rcases List.mem_append.1 hx with hx | hx
  ·exact h.ops x hx
  ·rw[List.mem_singleton.1 hx];exact hab
 ·have ht':setF s.out o.1 true t=false:=ht;have hne2:t≠o.1:=fun e=>by rw[e,setF_same]at ht';cases ht'
  rw[zaa _ _ hne2]at ht';have he':zaz (s.told++[(o.1,4,0)]) t=true:=he;rw[zeJ]at he';rcases Bool.or_eq_true_iff.1 he' with h1 | h1
  ·rw[zeJ,h.ends t ht' h1];rfl
  ·simp at h1;exact absurd h1.1.symm hne2
 ·rcases List.mem_append.1 hx with hx | hx
  ·exact h.rds x hx hx1
  ·rw[List.mem_singleton.1 hx]at hx1;cases hx1
 ·rcases List.mem_append.1 hx with hx | hx
  ·exact h.wrs x hx hx2
  ·rw[List.mem_singleton.1 hx]at hx2;cases hx2
 ·refine List.pairwise_append.2 ⟨h.rise,List.pairwise_singleton _ _,fun a ha b hb hodd=>?_⟩;rw[List.mem_singleton.1 hb]at hodd;obtain⟨e1,e2,e3⟩:=zlM hodd;rcases e3 with e3 | e3
  ·have:=zfw (h.ops a ha) (.inr e3);simp at e2;omega
  ·simp at e3
 ·rcases List.mem_append.1 hv with hv | hv
  ·obtain⟨h1,h2⟩:=h.vict v hv;refine⟨?_,h2⟩;show setF s.out o.1 true v=true;unfold setF;split
   ·rfl
   ·exact h1
  ·rw[List.mem_singleton.1 hv];exact⟨setF_same _ _ _,hr⟩
 ·show ∃q,ofL (s.told++[(o.1,4,0)]) t=q++[(t,4,0)];rw[zok];by_cases e:o.1=t
  ·rw[if_pos e,e];exact⟨_,rfl⟩
  ·rw[if_neg e,List.append_nil];have ht':setF s.out o.1 true t=true:=ht;rw[zaa _ _ (fun h=>e h.symm)]at ht';exact h.last t ht'
 ·have:=h.long;show(s.told++[_]).length<=(pre++[o]).length/\(s.vict++[_]).length<=(pre++[o]).length;simp only[List.length_append,List.length_singleton];omega
theorem zs8(a b:Int):a<=zyv a b/\b<=zyv a b:=by unfold zyv;split <;> omega
theorem zrU{leave:Bool}{pre:List Op3}{s:Stm}{o:Op3}(h:zpu pre s)(hop:isOpB o=true)(hend:zaz pre o.1=false):zpu (pre++[o]) (zb3 leave s o):=by
 unfold zb3;split
 ·exact h.skip o
 ·rename_i hout;have hout':s.out o.1=false:=by simpa using hout
  split
  ·exact h.gone hop hout' hend
  ·rename_i hbad;split
   ·rename_i h1;have hl:¬o.1<s.wr o.2.2:=by unfold zAD at hbad;rw[if_pos h1]at hbad;simpa[zmT]using hbad
    refine h.tell hop hout' hend (setF s.rd o.2.2 (zyv (s.rd o.2.2) o.1)) s.wr (fun x=>?_) (fun x=>Int.le_refl _) (fun _=>⟨?_,fun a ha ha2 hai=>?_⟩) (fun h2=>by omega)
    ·unfold setF;split
     ·rename_i e;rw[e];exact(zs8 _ _).1
     ·exact Int.le_refl _
    ·rw[setF_same];exact(zs8 _ _).2
    ·have:=h.wrs a ha ha2;rw[hai]at this;omega
   ·rename_i h1;split
    ·rename_i h2;split
     ·exact h.skip o
     ·rename_i hlate;have hl:¬o.1<s.wr o.2.2:=by simpa[zmT]using hlate
      have hr:¬o.1<s.rd o.2.2:=by unfold zAD at hbad;rw[if_neg h1,if_pos h2]at hbad;simp at hbad;omega
      refine h.tell hop hout' hend s.rd (setF s.wr o.2.2 o.1) (fun x=>Int.le_refl _) (fun x=>?_) (fun h3=>absurd h3 h1) (fun _=>⟨by rw[setF_same];exact Int.le_refl _,fun a ha ha2 hai=>?_⟩)
      ·unfold setF;split
       ·rename_i e;rw[e];omega
       ·exact Int.le_refl _
      ·rcases ha2 with ha2 | ha2
       ·have:=h.rds a ha ha2;rw[hai]at this;omega
       ·have:=h.wrs a ha ha2;rw[hai]at this;omega
    ·rename_i h2;exact h.tell hop hout' hend s.rd s.wr (fun x=>Int.le_refl _) (fun x=>Int.le_refl _) (fun h3=>absurd h3 h1) (fun h3=>absurd h3 h2)
theorem zrO{l:List Op3}(h:zgK l){k:Nat}(hk:k<l.length):zaz (l.take k) l[k].1=false:=by
 unfold zaz;rw[List.any_eq_false];intro a ha;have hm:l.take k++[l[k]]=l.take (k+1):=by rw[List.take_succ_eq_append_getElem hk]
 have hp:(l.take k++[l[k]]).Pairwise fun a b=>¬(a.1=b.1/\zaM a.2.1=true):=by rw[hm];exact h.sublist (List.take_sublist _ _)
 have:=(List.pairwise_append.1 hp).2.2 a ha l[k] (List.mem_singleton.2 rfl);simpa using this
theorem zpB(leave:Bool)(l:List Op3)(hop:∀o∈l,isOpB o=true)(hc:zgK l):∀k,k<=l.length->zpu (l.take k) (zbf leave (l.take k)):=by
 intro k
 induction k with
 | zero=>intro _;exact stOk0
 | succ k ih =>
   intro hk;have h1:=ih (by omega);have e:zbf leave (l.take (k+1))=zb3 leave (zbf leave (l.take k)) l[k]:=by unfold zbf;rw[List.take_succ_eq_append_getElem (by omega),List.foldl_append];rfl
   rw[e,List.take_succ_eq_append_getElem (by omega)];exact zrU h1 (hop _ (List.getElem_mem _)) (zrO hc (by omega))
theorem zvP(leave:Bool){l:List Op3}(h:(chk l).2=0):zpu l (zbf leave l):=by obtain⟨_,h2,h3⟩:=(zbq l).1 h;have:=zpB leave l h2 h3 l.length (Nat.le_refl _);rw[List.take_length]at this;exact this
theorem zuc(leave:Bool){l:List Op3}(h:(chk l).2=0):(chk (zbf leave l).told).2=0:=by have h1:=zvP leave h;have h2:=zaQ h;exact(zbq _).2 ⟨by have:=h1.long;omega,h1.ops,h1.calm⟩
end Go.Proofs.YthlhgiihngcobaaGreatDoor
namespace Go.Proofs.YthlhgiihngcobaaGreatDoor
open Go.RowKit
def zdc(leave:Bool)(l:List Op3):(List Op3 × List Int) × Int:=if(chk l).2≠0 then(([],[]),(chk l).2)else(((zbf leave l).told,(zbf leave l).vict),0)
def zA4:Prop:=∀(l:List Op3) (v:Value) (leave:Bool) (w:World),zai w v l->Calls Tryz.prog 31 #[v,.bool leave] w fun e w'=>∃v1 v2,e=.returned (.tuple #[v1,v2,zeH (zdc leave l).2])/\zai w' v1 (zdc leave l).1.1/\zaf w' v2 (zdc leave l).1.2/\Below w.heap.size w w'
theorem zr1{leave:Bool}{l:List Op3}(h:(chk l).2≠0):zdc leave l=(([],[]),(chk l).2):=by unfold zdc;rw[if_pos h]
theorem zib{leave:Bool}{l:List Op3}(h:(chk l).2=0):zdc leave l=(((zbf leave l).told,(zbf leave l).vict),0):=by unfold zdc;rw[if_neg (by simpa using h)]
end Go.Proofs.YthlhgiihngcobaaGreatDoor
namespace Go.Proofs.YthlhgiihngcobaaGreatDoor
structure Dl where
 began:Int
 ended:Int
 seen:List Op3
 wrote:List Int
structure Kst where
 done:List Int
 of:Int->Dl
 beg:Int->Bool
 looks:List Op3
def zBR:Kst:=⟨[],fun _=>⟨0,0,[],[]⟩,fun _=>false,[]⟩
def zkJ(done:List Int)(of:Int->Dl)(item time below:Int):Int :=done.foldl (fun f t=>if(!inB (of t).wrote item || decide (time<=(of t).ended))=true then f else if below=0 then t else if t<below/\f<t then t else f) 0
def zlO(t:Int)(r:Dl)(item:Int):Bool:=r.seen.any fun x=>x.2.1 == item && x.2.2 != t
def znH(a b:Dl):Bool:=(decide (b.ended<0) || decide (a.began<b.ended)) && (decide (a.ended<0) || decide (b.began<a.ended))
def nowK(s:Kst)(at_:Int)(t:Int):Dl:=if s.beg t=true then s.of t else⟨at_,-1,[],[]⟩
def fromK(kind:Int)(s:Kst)(at_:Int)(r:Dl)(t item:Int):Int :=if inB r.wrote item=true then t else if kind=1 then zkJ s.done s.of item at_ 0 else if kind=4 then zkJ s.done s.of item at_ t else zkJ s.done s.of item r.began 0
def zyP(kind:Int)(s:Kst)(t:Int)(r:Dl):Bool :=s.done.any fun i=>(s.of i).wrote.any fun item=>decide (r.began<(s.of i).ended) && (if 1<kind then inB r.wrote item else zlO t r item)
def zrd(s:Kst)(t:Int)(r:Dl):Bool:=s.looks.any fun x=>inB r.wrote x.2.1 && (decide (t<x.1) && decide (x.2.2<t))
def zpe(kind:Int)(s:Kst)(at_ t item:Int):Kst :=
 { s with of:=setF s.of t { nowK s at_ t with seen:=(nowK s at_ t).seen++[(t,item,fromK kind s at_ (nowK s at_ t) t item)] },beg:=setF s.beg t true,
          looks:=if kind=4/\inB (nowK s at_ t).wrote item=false then s.looks++[(t,item,fromK kind s at_ (nowK s at_ t) t item)]else s.looks }
def zl8(s:Kst)(at_ t item:Int):Kst:={ s with of:=setF s.of t { nowK s at_ t with wrote:=(nowK s at_ t).wrote++[item] },beg:=setF s.beg t true }
def zaJ(s:Kst)(at_ t:Int):Kst:={ s with of:=setF s.of t (nowK s at_ t),beg:=setF s.beg t true }
def zph(s:Kst)(at_ t:Int):Kst:={ s with done:=s.done++[t],of:=setF s.of t { nowK s at_ t with ended:=at_ },beg:=setF s.beg t true }
def zeR(kind:Int)(okF:Kst->Int->Dl->Bool)(s:Kst)(at_:Int)(o:Op3):Kst :=
 if o.2.1=1 then zpe kind s at_ o.1 o.2.2 else if o.2.1=2 then zl8 s at_ o.1 o.2.2
 else if o.2.1=3 then(if okF s o.1 (nowK s at_ o.1)=true then zph s at_ o.1 else zaJ s at_ o.1)else zaJ s at_ o.1
def runK(kind:Int)(okF:Kst->Int->Dl->Bool)(l:List Op3):Nat->Kst
 | 0=>zBR
 | k+1=>zeR kind okF (runK kind okF l k) (k:Int) (opAt l k)
def zii(t:Int)(last:Int->Int)(s:List Op3 × List Int)(o:Op3):List Op3 × List Int :=if o.2.1=1 then(s.1++[(t,o.2.2,if inB s.2 o.2.2=true then t else last o.2.2)],s.2)else if o.2.1=2 then(s.1,s.2++[o.2.2])else s
def zmF(t:Int)(last:Int->Int)(own:List Op3):List Op3 × List Int:=own.foldl (zii t last) ([],[])
theorem zhZ(t:Int)(last:Int->Int)(own:List Op3)(o:Op3):zmF t last (own++[o])=zii t last (zmF t last own) o:=by unfold zmF;rw[List.foldl_append];rfl
structure KOk(l:List Op3)(k:Nat)(s:Kst):Prop where
 fresh:∀t,s.beg t=false->ofL (l.take k) t=[]
 sees:∀t,s.beg t=true->∀last:Int->Int,(∀e∈(s.of t).seen,e.2.2≠t->e.2.2=last e.2.1)->((s.of t).seen,(s.of t).wrote)=zmF t last (ofL (l.take k) t)
 txs:∀t,s.beg t=true->∀e∈(s.of t).seen,e.1=t
 once:s.done.Nodup
 comm:∀t∈s.done,s.beg t=true/\1<=t/\t<=6/\0<=(s.of t).ended/\(s.of t).ended<k/\opAt l (s.of t).ended.toNat=(t,3,0)
 open_:∀t,s.beg t=true->t ∉ s.done->(s.of t).ended=-1
 times:∀t,s.beg t=true->0<=(s.of t).began/\(s.of t).began<k
theorem zCg(l:List Op3):KOk l 0 zBR:=⟨fun _ _=>rfl,fun _ h=>(by cases h),fun _ h=>(by cases h),List.nodup_nil,fun _ h=>(by cases h),fun _ h=>(by cases h),fun _ h=>(by cases h)⟩
theorem zsc{l:List Op3}{k:Nat}(hk:k<l.length)(t:Int):ofL (l.take (k+1)) t=ofL (l.take k) t++(if(opAt l k).1=t then[opAt l k]else[]):=by
 rw[List.take_succ_eq_append_getElem hk];have e:l[k]=opAt l k:=by simp[opAt,List.getD,List.getElem?_eq_getElem hk]
 rw[e];exact zok _ _ _
theorem KOk.now{l:List Op3}{k:Nat}{s:Kst}(h:KOk l k s)(t:Int):(∀last:Int->Int,(∀e∈(nowK s k t).seen,e.2.2≠t->e.2.2=last e.2.1)->((nowK s k t).seen,(nowK s k t).wrote)=zmF t last (ofL (l.take k) t))/\(∀e∈(nowK s k t).seen,e.1=t)/\(0<=(nowK s k t).began/\(nowK s k t).began<(k:Int)+1)/\(t ∉ s.done->(nowK s k t).ended=-1):=by
 unfold nowK;split
 ·rename_i hb;exact⟨h.sees t hb,h.txs t hb,by have:=h.times t hb;omega,h.open_ t hb⟩
 ·rename_i hb;have hb':s.beg t=false:=by simpa using hb
  refine⟨fun last _=>?_,fun e he=>(by cases he),by dsimp only;omega,fun _=>rfl⟩;rw[h.fresh t hb'];rfl
theorem KOk.step{l:List Op3}{k:Nat}{s:Kst}(h:KOk l k s)(hk:k<l.length)(t:Int)(ht:(opAt l k).1=t)(r:Dl)(dn:List Int)(lk:List Op3)(hnd:t ∉ s.done)
  (hsees:∀last:Int->Int,(∀e∈r.seen,e.2.2≠t->e.2.2=last e.2.1)->(r.seen,r.wrote)=zmF t last (ofL (l.take (k+1)) t)) (htx:∀e∈r.seen,e.1=t) (hbeg:0<=r.began/\r.began<(k:Int)+1)
  (hd:(dn=s.done/\r.ended=-1)\/(dn=s.done++[t]/\r.ended=k/\opAt l k=(t,3,0)/\1<=t/\t<=6)):KOk l (k+1) ⟨dn,setF s.of t r,setF s.beg t true,lk⟩:=by
 have hof:∀u,u≠t->ofL (l.take (k+1)) u=ofL (l.take k) u:=fun u hu=>by rw[zsc hk,if_neg (fun e=>hu (e.symm.trans ht)),List.append_nil]
 refine⟨fun u hu=>?_,fun u hu=>?_,fun u hu=>?_,?_,fun u hu=>?_,fun u hu hnu=>?_,fun u hu=>?_⟩
 ·have hu':setF s.beg t true u=false:=hu;have hne:u≠t:=fun e=>by rw[e,setF_same]at hu';cases hu'
  rw[zaa _ _ hne]at hu';rw[hof u hne];exact h.fresh u hu'
 ·show ∀last:Int->Int,(∀e∈(setF s.of t r u).seen,e.2.2≠u->e.2.2=last e.2.1)->((setF s.of t r u).seen,(setF s.of t r u).wrote)=zmF u last (ofL (l.take (k+1)) u);by_cases e:u=t
  ·subst e;rw[setF_same];exact hsees
  ·rw[zaa _ _ e,hof u e];have hu':setF s.beg t true u=true:=hu;rw[zaa _ _ e]at hu';exact h.sees u hu'
 ·show ∀e∈(setF s.of t r u).seen,e.1=u;by_cases e:u=t
  ·subst e;rw[setF_same];exact htx
  ·rw[zaa _ _ e];have hu':setF s.beg t true u=true:=hu;rw[zaa _ _ e]at hu';exact h.txs u hu'
 ·rcases hd with⟨rfl,_⟩ | ⟨rfl,_⟩
  ·exact h.once
  ·rw[List.nodup_append];refine⟨h.once,by simp,fun a ha b hb=>?_⟩;rw[List.mem_singleton.1 hb];exact fun e=>hnd (e ▸ha)
 ·have old:u∈s.done->u≠t->setF s.beg t true u=true/\1<=u/\u<=6/\0<=(setF s.of t r u).ended/\(setF s.of t r u).ended<((k+1:Nat):Int)/\opAt l (setF s.of t r u).ended.toNat=(u,3,0):=fun hm hne=>by
   obtain⟨h1,h2,h3,h4,h5,h6⟩:=h.comm u hm;rw[zaa _ _ hne,zaa _ _ hne];exact⟨h1,h2,h3,h4,by omega,h6⟩
  rcases hd with⟨rfl,_⟩ | ⟨rfl,he,ho,h1,h6⟩
  ·exact old hu (fun e=>hnd (e ▸hu))
  ·rcases List.mem_append.1 hu with hu | hu
   ·exact old hu (fun e=>hnd (e ▸hu))
   ·rw[List.mem_singleton.1 hu];show setF s.beg t true t=true/\1<=t/\t<=6/\0<=(setF s.of t r t).ended/\(setF s.of t r t).ended<((k+1:Nat):Int)/\opAt l (setF s.of t r t).ended.toNat=(t,3,0);rw[setF_same,setF_same,he];exact⟨rfl,h1,h6,by omega,by omega,by simpa using ho⟩
 ·show(setF s.of t r u).ended=-1;by_cases e:u=t
  ·subst e;rw[setF_same];rcases hd with⟨_,he⟩ | ⟨rfl,_⟩
   ·exact he
   ·exact absurd (List.mem_append_right _ (List.mem_singleton.2 rfl)) hnu
  ·rw[zaa _ _ e];have hu':setF s.beg t true u=true:=hu;rw[zaa _ _ e]at hu';refine h.open_ u hu' fun hm=>hnu ?_;rcases hd with⟨rfl,_⟩ | ⟨rfl,_⟩
   ·exact hm
   ·exact List.mem_append_left _ hm
 ·show 0<=(setF s.of t r u).began/\(setF s.of t r u).began<((k+1:Nat):Int);by_cases e:u=t
  ·subst e;rw[setF_same];omega
  ·rw[zaa _ _ e];have hu':setF s.beg t true u=true:=hu;rw[zaa _ _ e]at hu';have:=h.times u hu';omega
end Go.Proofs.YthlhgiihngcobaaGreatDoor
namespace Go.Proofs.YthlhgiihngcobaaGreatDoor
theorem zkI{d:List Op3}{i:Nat}(h:i<d.length):opAt d i=d[i]:=by simp[opAt,List.getD,List.getElem?_eq_getElem h]
theorem KOk.free{l:List Op3}{k:Nat}{s:Kst}(h:KOk l k s)(hc:zgK l)(hk:k<l.length):(opAt l k).1 ∉ s.done:=fun hm=>by
 obtain⟨_,_,_,h4,h5,h6⟩:=h.comm _ hm;have hij:(s.of (opAt l k).1).ended.toNat<k:=by omega
 have h1:=List.pairwise_iff_getElem.1 hc _ k (by omega) hk hij;rw[<-zkI (by omega),<-zkI hk]at h1;refine h1 ?_;rw[h6];exact⟨rfl,rfl⟩
theorem zxR(t:Int)(last:Int->Int)(own:List Op3)(o:Op3)(ho:o.2.1=1):zmF t last (own++[o])=((zmF t last own).1++[(t,o.2.2,if inB (zmF t last own).2 o.2.2=true then t else last o.2.2)],(zmF t last own).2):=by rw[zhZ];unfold zii;rw[if_pos ho]
theorem zsn(t:Int)(last:Int->Int)(own:List Op3)(o:Op3)(ho:o.2.1=2):zmF t last (own++[o])=((zmF t last own).1,(zmF t last own).2++[o.2.2]):=by rw[zhZ];unfold zii;rw[if_neg (by omega),if_pos ho]
theorem zAy(t:Int)(last:Int->Int)(own:List Op3)(o:Op3)(h1:o.2.1≠1)(h2:o.2.1≠2):zmF t last (own++[o])=zmF t last own:=by rw[zhZ];unfold zii;rw[if_neg h1,if_neg h2]
theorem KOk.next{kind:Int}{okF:Kst->Int->Dl->Bool}{l:List Op3}{k:Nat}{s:Kst}(h:KOk l k s)(hc:zgK l)(hop:∀o∈l,isOpB o=true)(hk:k<l.length)
  (hfrom:∀t item,fromK kind s k (nowK s k t) t item=t->t ∉ s.done->1<=t->inB (nowK s k t).wrote item=true):KOk l (k+1) (zeR kind okF s k (opAt l k)):=by
 have hnd:=h.free hc hk;have hmem:opAt l k∈l:=by rw[zkI hk];exact List.getElem_mem hk
 have hisop:=hop _ hmem;have htx:1<=(opAt l k).1/\(opAt l k).1<=6:=by have:=hisop;unfold isOpB at this;simp at this;omega
 obtain⟨n1,n2,n3,n4⟩:=h.now (opAt l k).1;have hend:=n4 hnd;have hown:ofL (l.take (k+1)) (opAt l k).1=ofL (l.take k) (opAt l k).1++[opAt l k]:=by rw[zsc hk,if_pos rfl]
 unfold zeR;split
 ·rename_i ho;refine h.step hk _ rfl _ _ _ hnd (fun last hl=>?_) (fun e he=>?_) n3 (Or.inl ⟨rfl,hend⟩)
  ·have hl':=n1 last fun e he hne=>hl e (List.mem_append_left _ he) hne;rw[hown,zxR _ _ _ _ ho,<-hl'];dsimp only;have hlast:=hl _ (List.mem_append_right _ (List.mem_singleton.2 rfl));dsimp only at hlast;by_cases hw:inB (nowK s k (opAt l k).1).wrote (opAt l k).2.2=true
   ·rw[if_pos hw];unfold fromK;rw[if_pos hw]
   ·rw[if_neg hw];have hne:fromK kind s k (nowK s k (opAt l k).1) (opAt l k).1 (opAt l k).2.2≠(opAt l k).1:=fun e=>hw (hfrom _ _ e hnd htx.1);rw[hlast hne]
  ·rcases List.mem_append.1 he with he | he
   ·exact n2 e he
   ·rw[List.mem_singleton.1 he]
 ·rename_i ho1;split
  ·rename_i ho;refine h.step hk _ rfl _ _ _ hnd (fun last hl=>?_) n2 n3 (Or.inl ⟨rfl,hend⟩);rw[hown,zsn _ _ _ _ ho,<-n1 last hl]
  ·rename_i ho2;have hstay:∀last:Int->Int,(∀e∈(nowK s k (opAt l k).1).seen,e.2.2≠(opAt l k).1->e.2.2=last e.2.1)->((nowK s k (opAt l k).1).seen,(nowK s k (opAt l k).1).wrote)=zmF (opAt l k).1 last (ofL (l.take (k+1)) (opAt l k).1):=fun last hl=>by rw[hown,zAy _ _ _ _ ho1 ho2];exact n1 last hl
   split
   ·rename_i ho3;split
    ·refine h.step hk _ rfl _ _ _ hnd hstay n2 n3 (Or.inr ⟨rfl,rfl,?_,htx⟩);rcases isOp_kinds hisop with e | e | ⟨_,e⟩
     ·omega
     ·omega
     ·exact Prod.ext rfl (Prod.ext ho3 e)
    ·exact h.step hk _ rfl _ _ _ hnd hstay n2 n3 (Or.inl ⟨rfl,hend⟩)
   ·exact h.step hk _ rfl _ _ _ hnd hstay n2 n3 (Or.inl ⟨rfl,hend⟩)
theorem who_mem(done:List Int)(of:Int->Dl)(item time below:Int):zkJ done of item time below=0\/zkJ done of item time below∈done:=by
 unfold zkJ
 suffices H:∀(d:List Int) (f:Int),(∀x∈d,x∈done)->(f=0\/f∈done)->(d.foldl (fun f t=>if(!inB (of t).wrote item || decide (time<=(of t).ended))=true then f else if below=0 then t else if t<below/\f<t then t else f) f=0\/d.foldl (fun f t=>if(!inB (of t).wrote item || decide (time<=(of t).ended))=true then f else if below=0 then t else if t<below/\f<t then t else f) f∈done)from H done 0 (fun _ h=>h) (Or.inl rfl)
 intro d
 induction d with
 | nil=>exact fun f _ h=>h
 | cons a d ih =>
   intro f hd hf;rw[List.foldl_cons];refine ih _ (fun x hx=>hd x (List.mem_cons_of_mem _ hx)) ?_;split
   ·exact hf
   ·split
    ·exact Or.inr (hd a (List.mem_cons_self ..))
    ·split
     ·exact Or.inr (hd a (List.mem_cons_self ..))
     ·exact hf
theorem zwE{kind:Int}{s:Kst}{k:Int}{r:Dl}{t item:Int}(h:fromK kind s k r t item=t)(hnd:t ∉ s.done)(ht:1<=t):inB r.wrote item=true:=by
 unfold fromK at h;split at h
 ·assumption
 ·exfalso
  have H:∀a b,zkJ s.done s.of item a b≠t:=fun a b e=>by
   rcases who_mem s.done s.of item a b with e' | e'
   ·omega
   ·exact hnd (e ▸e')
  split at h
  ·exact H _ _ h
  ·split at h
   ·exact H _ _ h
   ·exact H _ _ h
theorem zhS(kind:Int)(okF:Kst->Int->Dl->Bool){l:List Op3}(h:(chk l).2=0):∀k,k<=l.length->KOk l k (runK kind okF l k):=by
 obtain⟨_,h2,h3⟩:=(zbq l).1 h;intro k
 induction k with
 | zero=>exact fun _=>zCg l
 | succ k ih=>exact fun hk=>(ih (by omega)).next h3 h2 (by omega) fun t item e1 e2 e3=>zwE e1 e2 e3
end Go.Proofs.YthlhgiihngcobaaGreatDoor
