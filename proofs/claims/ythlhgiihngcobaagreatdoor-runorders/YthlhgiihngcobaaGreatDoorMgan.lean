/-
  PROVED HERE: plain facts, with no word of the program; plain facts, with no word of the program.
  Conditions: none but those that each theorem's own premises say.
-/
import Derived.Test.YthlhgiihngcobaaGreatDoorMgak
import Derived.Test.YthlhgiihngcobaaGreatDoorMgal
import Derived.Test.YthlhgiihngcobaaGreatDoorMgam
set_option maxHeartbeats 32000000
set_option maxRecDepth 100000
namespace Go.Proofs.YthlhgiihngcobaaGreatDoor
theorem ziN(d:List Op3)(t:Int)(o:List Int):alongL d (t::o)=ofL d t++alongL d o:=by simp[alongL]
theorem zgc{d:List Op3}{o:List Int}{x:Op3}:x∈alongL d o↔x∈d/\x.1∈o:=by
 unfold alongL ofL;simp only[List.mem_flatMap,List.mem_filter,beq_iff_eq];constructor
 ·rintro⟨t,ht,hx,rfl⟩;exact⟨hx,ht⟩
 ·rintro⟨hx,ht⟩;exact⟨_,ht,hx,rfl⟩
theorem zm5(d:List Op3)(u t:Int):ofL (ofL d u) t=if u=t then ofL d t else[]:=by
 unfold ofL;rw[List.filter_filter];split
 ·rename_i h;subst h;simp
 ·rename_i h;rw[List.filter_eq_nil_iff];intro a _ h2;simp at h2;exact h (h2.2.symm.trans h2.1)
theorem zhK{d:List Op3}{t:Int}:∀ {o:List Int},o.Nodup->ofL (alongL d o) t=if t∈o then ofL d t else[]:=by
 intro o
 induction o with
 | nil=>intro _;rfl
 | cons u o ih =>
   intro hn;obtain⟨h1,h2⟩:=List.nodup_cons.1 hn;rw[ziN,zds,zm5,ih h2];by_cases e:u=t
   ·subst e;rw[if_pos rfl,if_neg h1,if_pos (List.mem_cons_self ..),List.append_nil]
   ·rw[if_neg e,List.nil_append];by_cases h3:t∈o
    ·rw[if_pos h3,if_pos (List.mem_cons_of_mem _ h3)]
    ·rw[if_neg h3,if_neg fun h=>?_];rcases List.mem_cons.1 h with h | h
     ·exact e h.symm
     ·exact h3 h
theorem zeV{d:List Op3}{o:List Int}(hs:za6 o=zac d):o.Nodup:=(zcn hs).nodup_iff.2 (zdm (za5 _))
theorem zjz{d:List Op3}{o:List Int}(hs:za6 o=zac d){t:Int}:t∈o↔t∈zac d:=(zcn hs).mem_iff
theorem zhn{d:List Op3}{o:List Int}(hs:za6 o=zac d):zkM (alongL d o) d:=fun t h1 h6=>by
 rw[zhK (zeV hs)];split
 ·rfl
 ·rename_i h
  have h2:zeH d t=false:=by
   cases h3:zeH d t with
   | false=>rfl
   | true=>exact absurd ((zjz hs).2 (zaz.2 ⟨h1,h6,h3⟩)) h
  exact(List.length_eq_zero_iff.1 (znd h2)).symm
theorem zmW:∀ {l:List Op3},(∀t,zeF (ofL l t))->zeF l:=by
 intro l
 induction l with
 | nil=>intro _;exact List.Pairwise.nil
 | cons a r ih =>
   intro h;refine List.pairwise_cons.2 ⟨fun b hb=>?_,ih fun t=>?_⟩
   ·have h1:=h a.1;rw[zcu,if_pos rfl]at h1;rintro⟨e,h2⟩;exact(List.pairwise_cons.1 h1).1 b (List.mem_filter.2 ⟨hb,by simp[e]⟩) ⟨e,h2⟩
   ·have h1:=h t;rw[zcu]at h1;split at h1
    ·exact(List.pairwise_cons.1 h1).2
    ·exact h1
theorem zj4{d:List Op3}{o:List Int}(hc:(chk d).2=0)(hs:za6 o=zac d):(chk (alongL d o)).2=0:=by
 obtain⟨h1,h2,h3⟩:=(zbT d).1 hc;have hr:∀x∈d,1<=x.1/\x.1<=6:=fun x hx=>zaG (h2 x hx);have hr2:∀x∈alongL d o,1<=x.1/\x.1<=6:=fun x hx=>hr x (zgc.1 hx).1;refine(zbT _).2 ⟨?_,fun x hx=>h2 x (zgc.1 hx).1,zmW fun t=>?_⟩
 ·rw[zga hr2 hr (zhn hs)];exact h1
 ·rw[zhK (zeV hs)];split
  ·exact h3.sublist List.filter_sublist
  ·exact List.Pairwise.nil
end Go.Proofs.YthlhgiihngcobaaGreatDoor
namespace Go.Proofs.YthlhgiihngcobaaGreatDoor
theorem zk5:∀ {o:List Int} {i j:Nat} {x y:Int},i<j->o[i]? = some x->o[j]? = some y->[x,y].Sublist o:=by
 intro o
 induction o with
 | nil=>intro i j x y _ h _;simp at h
 | cons a r ih =>
   intro i j x y hij hi hj;cases j with
   | zero=>omega
   | succ j =>
     simp only[List.getElem?_cons_succ]at hj;cases i with
     | zero =>simp only[List.getElem?_cons_zero,Option.some.injEq]at hi;subst hi;exact List.Sublist.cons_cons _ (List.singleton_sublist.2 (List.mem_of_getElem? hj))
     | succ i =>simp only[List.getElem?_cons_succ]at hi;exact(ih (by omega) hi hj).cons _
def zon(l:List zaa)(o:List Int):Prop:=∀e∈l,[e.1,e.2].Sublist o
theorem zki(l:List zaa):∀(n:Nat) (s:zaK) (o:List Int),zcs s<=n->(∀k,s k=true->1<=k/\k<=6)->zeO l n s=some o->o.Nodup:=by
 intro n
 induction n with
 | zero =>intro s o hn _ h;rw[ordF_end (cnt_zero (s:=s) (by omega))]at h;rw[<-Option.some.inj h];exact List.nodup_nil
 | succ n ih =>
   intro s o hn hs h;cases ha:zb4 s with
   | false=>rw[ordF_end ha]at h;rw[<-Option.some.inj h];exact List.nodup_nil
   | true =>
     by_cases h0:nextN l s=0
     ·rw[zb6 hn ha h0]at h;cases h
     ·rw[zbR hn ha h0]at h;obtain⟨r,hr,e⟩:=Option.map_eq_some_iff.1 h;have hc:=zbN h0
      have hs2:∀k,zcL s (nextN l s) false k=true->1<=k/\k<=6:=fun k hk=>by
       by_cases e2:k=nextN l s
       ·rw[e2,zaI]at hk;cases hk
       ·rw[zap s false e2]at hk;exact hs k hk
      rw[<-e];refine List.nodup_cons.2 ⟨fun hm=>?_,ih _ r (by omega) hs2 hr⟩;obtain⟨t,ht,h2⟩:=(zfj l _ _ r (by omega) hs2 hr _).1 hm;have:t=nextN l s:=by omega
      rw[this,zaI]at h2;cases h2
theorem zkK(b:List Int):∀fr,b.Sublist (weaveL b fr):=by
 induction b with
 | nil=>intro fr;exact List.nil_sublist _
 | cons a r ih =>intro fr;exact(((ih _).cons_cons a)).trans (List.sublist_append_right _ _)
theorem zer{d:List Op3}(hd:∀x∈d,1<=x.1/\x.1<=6){o:List Int}(h:za4 d=some o):za6 o=zac d/\zon (zam d 36) o:=by
 have h1:=zgY hd;rw[h]at h1;unfold zim at h1;rw[zc0]at h1;obtain⟨q,hq,e⟩:=Option.map_eq_some_iff.1 h1;simp only[List.nil_append]at e;subst e;have hls:∀t:Nat,zfH (zac d) [] t=inB (zac d) (t:Int):=fun t=>by unfold zfH;rw[zfn.2 (by simp:(t:Int) ∉ ([]:List Int))];simp
 have hs:∀k,zfH (zac d) [] k=true->1<=k/\k<=6:=fun k hk=>by rw[hls,zaT]at hk;have:=zaz.1 hk;omega
 refine⟨zep (zki _ 7 _ q (cnt_le _) hs hq) (za5 d) fun x=>?_,fun e he=>?_⟩
 ·rw[zfj _ 7 _ q (cnt_le _) hs hq];constructor
  ·rintro⟨t,rfl,ht⟩;rw[hls,zaT]at ht;exact ht
  ·intro hx;have:=zaz.1 hx;exact⟨x.toNat,by omega,by rw[hls,Int.toNat_of_nonneg (by omega)];exact zaT.2 hx⟩
 ·unfold za4 at h;obtain⟨b,hb,e2⟩:=Option.map_eq_some_iff.1 h;have hr:=zbW d 36;rcases order_either hr with⟨b',hb',hio⟩ | ⟨hb',_⟩
  ·rw[hb]at hb';cases hb';obtain⟨x,y,rfl,_,_⟩:=hr.nat he;obtain⟨i,j,hij,hi,hj⟩:=hio.back x y he;rw[<-e2];exact(zk5 hij hi hj).trans (zkK b _)
  ·rw[hb]at hb';cases hb'
end Go.Proofs.YthlhgiihngcobaaGreatDoor
