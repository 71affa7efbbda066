/-
  PROVED HERE: graph.named gives the deals that right edges name; plain facts, with no word of the program.
  Conditions: none but those that each theorem's own premises say.
-/
import Derived.Test.YthlhgiihngcobaaGreatDoorMgaq
import Derived.Test.YthlhgiihngcobaaGreatDoorMgav
import Derived.Test.YthlhgiihngcobaaGreatDoorMgah
import Derived.Laws.Rows
import Derived.Laws.CopyOwn
import Derived.Test.YthlhgiihngcobaaGreatDoorMgai
import Derived.Test.YthlhgiihngcobaaGreatDoorMgaj
import Derived.Test.YthlhgiihngcobaaGreatDoorMgag
import Derived.Test.YthlhgiihngcobaaGreatDoorMgap
import Derived.BigQuiet
import Derived.OwnWalk
import Derived.Deep.QuietTactic
import Derived.WalkSmall
import Derived.Test.YthlhgiihngcobaaGreatDoorMgat
import Derived.Test.YthlhgiihngcobaaGreatDoorMgas
import Derived.Test.YthlhgiihngcobaaGreatDoorMgam
import Derived.Test.YthlhgiihngcobaaGreatDoorMgan
import Derived.Lib.ItoaNum
set_option maxHeartbeats 32000000
set_option maxRecDepth 100000
namespace Go.Proofs.YthlhgiihngcobaaGreatDoor
open Go.RowKit
theorem zhE(t j:Nat):((t:Int) == (j:Int))=decide (j=t):=by rw[Bool.eq_iff_iff];simp;omega
theorem zfS(s:zaK)(t a j:Nat):zcL (zcL s t true) a true j=(s j || ((t:Int) == (j:Int) || (a:Int) == (j:Int))):=by
 rw[zhE,zhE];unfold zcL;by_cases h1:j=a
 ·simp[h1]
 ·by_cases h2:j=t <;> simp[h1,h2]
theorem named_any(l:List zaa)(v:Value)(w:World)(hI:zae w v l)(hd:∀e∈l,(1<=e.1/\e.1<=6)/\(1<=e.2/\e.2<=6))(hl:l.length<=60):Calls Tryz.prog 113 #[v] w fun e w'=>e=.returned (.agg #[.bool (namedS l 0),.bool (namedS l 1),.bool (namedS l 2),.bool (namedS l 3),.bool (namedS l 4),.bool (namedS l 5),.bool (namedS l 6)])/\Below w.heap.size w w':=by
 obtain⟨ad,b,off,cap,rfl,ha,-,hbB,hops⟩:=hI;have HO:Hid (∀W,Below w.heap.size w W->∀k,k<l.length->ad=some ⟨b,off,none⟩/\W.cell? ⟨b,off+k*2,none⟩=some (.int .i64 (l.getD k (0,0)).1)/\W.cell? ⟨b,off+k*2+1,none⟩=some (.int .i64 (l.getD k (0,0)).2)):=fun W hW k hk=>⟨ha (by omega),(hops.below hW hbB) k hk⟩;have HD:Hid (∀e∈l,(1<=e.1/\e.1<=6)/\(1<=e.2/\e.2<=6)):=hd;clear ha hbB hops hd;go_enter Tryz.func113,Tryz.ntmps113;go_wp2
 go_loopw [8] (fun v8 wr=>∃k:Nat,k<=l.length/\v8=.int .i64 k/\Below w.heap.size w wr/\zag wr w.heap.size 7 (fun _=>false)/\zag wr (w.heap.size+1) 7 (namedS (l.take k))) (fun v8 _=>l.length-(intOf v8).toNat)
 case atStart =>refine⟨0,Nat.zero_le _,rfl,((Below.refl _ w).alloc (Nat.le_refl _) _).alloc (by simp) _,(zbC w (fun _=>false) _).alloc _,?_⟩;have:=zbC (w.alloc (Obj.cells #[Value.bool false,Value.bool false,Value.bool false,Value.bool false,Value.bool false,Value.bool false,Value.bool false] 194)) (fun _=>false) 194;rw[List.take_zero];exact(by simpa using this:zag _ (w.heap.size+1) 7 (fun _=>false))
 case round =>
  obtain⟨k,hk,rfl,hbel,hz,hs⟩:=hrel;have hB1:=hs.lt (by omega);have HZ:Hid (zag wr w.heap.size 7 (fun _=>false)):=hz;have HS:Hid (zag wr (w.heap.size+1) 7 (namedS (l.take k))):=hs;clear hz hs;by_cases hlt:k<l.length
  ·obtain⟨rfl,c0,c1⟩:=HO.out wr hbel k hlt;obtain⟨⟨t,a⟩,ho⟩:∃o:zaa,l.getD k (0,0)=o:=⟨_,rfl⟩;rw[ho]at c0 c1;have hmem:(t,a)∈l:=by rw[<-ho];simp[List.getD,List.getElem?_eq_getElem hlt]
   have hta:=HD.out _ hmem;simp only at hta c0 c1;obtain⟨t,rfl⟩:∃n:Nat,t=n:=⟨t.toNat,by omega⟩;obtain⟨a,rfl⟩:∃n:Nat,a=n:=⟨a.toNat,by omega⟩;have HT:Hid (l.take (k+1)=l.take k++[((t:Int),(a:Int))]):=by show l.take (k+1)=l.take k++[((t:Int),(a:Int))];rw[List.take_succ_eq_append_getElem hlt,<-ho];simp[List.getD,List.getElem?_eq_getElem hlt]
   have ht1:1<=t:=by omega
   have ht6:t<=6:=by omega
   have ha1:1<=a:=by omega
   have ha6:a<=6:=by omega
   clear ho hmem hta;obtain⟨f0,z0⟩:=HS.out t (by omega);obtain⟨f1,z1⟩:=HS.out a (by omega);have hsz:=hbel.size;have ht7:(t:Int)<7:=by omega
   have ha7:(a:Int)<7:=by omega
   have hB0:w.heap.size<wr.heap.size:=by omega
   by_cases hta:t=a
   ·have HEQ:Hid (t=a):=hta;subst hta;go_wp2;go_region
    all_goals
     go_wp2;go_roundw
     case rel =>refine⟨k+1,by omega,by go_num,(((hbel.setCell (by simp) _).setCell (by simp) _).alloc (by simpa using hsz) _).drew,(((HZ.out.far _ (by simp)).far _ (by simp)).alloc _).drew,((((HS.out.set true (by omega)).set true (by omega)).alloc _).drew).congr ?_⟩;intro j _;rw[HT.out,zek,zfS]
     case measure=>simp[intOf];omega
   ·have hat:¬a=t:=fun e=>hta e.symm;go_wp2;go_region
    all_goals
     go_wp2;go_roundw
     case rel =>refine⟨k+1,by omega,by go_num,(((hbel.setCell (by simp) _).setCell (by simp) _).alloc (by simpa using hsz) _).drew,(((HZ.out.far _ (by simp)).far _ (by simp)).alloc _).drew,((((HS.out.set true (by omega)).set true (by omega)).alloc _).drew).congr ?_⟩;intro j _;rw[HT.out,zek,zfS]
     case measure=>simp[intOf];omega
  ·have HE:Hid (namedS (l.take k)=namedS l):=by show namedS (l.take k)=namedS l;rw[List.take_of_length_le (by omega)]
   have f0:=(HS.out 0 (by omega)).1;have f1:=(HS.out 1 (by omega)).1;have f2:=(HS.out 2 (by omega)).1;have f3:=(HS.out 3 (by omega)).1;have f4:=(HS.out 4 (by omega)).1;have f5:=(HS.out 5 (by omega)).1;have f6:=(HS.out 6 (by omega)).1;have hz:∀k,k<7->wr.cell? ⟨w.heap.size,k,none⟩=some (.bool false):=fun k hk=>(HZ.out k hk).1;have hy:∀k,k<7->wr.frozen? ⟨w.heap.size,k,none⟩=false:=fun k hk=>(HZ.out k hk).2;rw[HE.out]at f0 f1 f2 f3 f4 f5 f6;clear HZ HS;go_wp2;refine bodyPost_ret (v:=.agg #[.bool (namedS l 0),.bool (namedS l 1),.bool (namedS l 2),.bool (namedS l 3),.bool (namedS l 4),.bool (namedS l 5),.bool (namedS l 6)]) (by simp[results,Tryz.results113,go_sem,hz]) rfl ⟨rfl,?_⟩;exact((((((hbel.setCell (Nat.le_refl _) _).setCell (Nat.le_refl _) _).setCell (Nat.le_refl _) _).setCell (Nat.le_refl _) _).setCell (Nat.le_refl _) _).setCell (Nat.le_refl _) _).setCell (Nat.le_refl _) _
end Go.Proofs.YthlhgiihngcobaaGreatDoor
namespace Go.Proofs.YthlhgiihngcobaaGreatDoor
def zdp(n:Int):List UInt8:=if n=1 then[69,114,114,82,97,110,103,101]else if n=2 then[69,114,114,83,121,110,116,97,120]else if n=3 then[69,114,114,83,104,97,112,101]else if n=4 then[69,114,114,70,117,108,108]else if n=5 then[69,114,114,78,111,110,101]else if n=6 then[69,114,114,83,116,97,116,101]else if n=7 then[69,114,114,67,108,97,115,104]else if n=8 then[69,114,114,67,121,99,108,101]else[]
def zou:List UInt8:=[98,97,100]
def zlN:List UInt8:=[114,101,99,111,118,101,114,97,98,108,101]
def zl7:List UInt8:=[99,97,117,116,105,111,117,115]
def zk8:List UInt8:=[115,116,114,105,99,116]
def zlh:List UInt8:=[114,105,103,111,114,111,117,115]
def ziD(l:List (List UInt8)):List UInt8:=l.foldl (fun t w=>(if t=[]then t else t++[32])++w) []
def ziM(t:List UInt8):List UInt8:=if t=[]then[45]else t
def zfd(l:List (List UInt8 × Bool)):List UInt8:=ziM (ziD ((l.filter fun x=>x.2).map fun x=>x.1))
def ze2(o:Option (List Int))(e:Int):List UInt8:=match o with | some o=>zi8 o | none=>zdp e
theorem zmK{ds:List Op3}(hc:(chk (ds.take 41)).2=0):ds.take 41=ds:=by have:=zaN hc;rw[List.length_take]at this;exact List.take_of_length_le (by omega)
theorem zex(n:Int):(zdp n).length<=9:=by
 unfold zdp
 repeat' split
 all_goals simp
theorem zkd(n:Nat):∀(l:List (List UInt8)),(∀w∈l,w.length<=n)->(ziD l).length<=l.length*(n+1):=by
 intro l hl
 have h:∀(l:List (List UInt8)) (t:List UInt8),(∀w∈l,w.length<=n)->(l.foldl (fun t w=>(if t=[]then t else t++[32])++w) t).length<=t.length+l.length*(n+1):=by
  intro l
  induction l with
  | nil=>intro t _;simp
  | cons a r ih =>
    intro t ha;have h1:=ih ((if t=[]then t else t++[32])++a) fun w hw=>ha w (List.mem_cons_of_mem _ hw);have h2:=ha a List.mem_cons_self
    have h3:((if t=[]then t else t++[32])++a).length<=t.length+1+n:=by
     rw[List.length_append];split
     ·omega
     ·rw[List.length_append,List.length_singleton];omega
    rw[List.foldl_cons,List.length_cons,Nat.succ_mul];omega
 have:=h l [] hl;rw[List.length_nil,Nat.zero_add]at this;exact this
theorem zkO{t:List UInt8}{n:Nat}(h:t.length<=n)(hn:1<=n):(ziM t).length<=n:=by
 unfold ziM;split
 ·simpa using hn
 ·exact h
theorem ziF(l:List (List UInt8 × Bool))(h:l.length<=4)(hw:∀x∈l,x.1.length<=20):(zfd l).length<=100:=by
 refine zkO ?_ (by decide);have h1:=zkd 20 ((l.filter fun x=>x.2).map fun x=>x.1) fun w hm=>by obtain⟨x,hx,rfl⟩:=List.mem_map.1 hm;exact hw x (List.mem_filter.1 hx).1
 have h2:((l.filter fun x=>x.2).map fun x=>x.1).length<=4:=by rw[List.length_map];exact Nat.le_trans (List.length_filter_le _ _) h
 omega
theorem zlB(o:List Int):(zhA o).length<=2*o.length:=by
 refine zfk (P:=fun o=>(zhA o).length<=2*o.length) (Nat.le_refl _) (fun r d ih=>?_) o;rw[zgp,List.length_append,List.length_append,List.length_singleton,List.length_singleton];split
 ·omega
 ·rw[List.length_append,List.length_singleton];omega
theorem zkZ{o:List Int}(h:o.length<=6):(zi8 o).length<=12:=by
 have:=zlB o;unfold zi8;split
 ·simp
 ·omega
theorem zm3(ds:List Int)(p:List Int->Bool):∀(f:Nat) (b r:List Int),tryO ds p f b=some r->r.length=b.length+f:=by
 intro f
 induction f with
 | zero =>
   intro b r h;unfold tryO at h;split at h
   ·rw[<-Option.some.inj h];rfl
   ·cases h
 | succ f ih =>
   intro b r h;unfold tryO at h;obtain⟨t,_,ht⟩:=List.exists_of_findSome?_eq_some h;split at ht
   ·cases ht
   ·have:=ih _ _ ht;rw[List.length_append,List.length_singleton]at this;omega
theorem zfP{h:List Op3}(hc:(chk h).2=0):∀o∈doneL h,1<=o.1/\o.1<=6:=fun o ho=>by have h1:=chk_ops hc o (List.mem_filter.1 ho).1;unfold isOpB at h1;simp at h1;omega
theorem zmG{h:List Op3}(hc:(chk h).2=0){o:List Int}(hs:za4 (doneL h)=some o):o.length<=6:=zdU (zer (zfP hc) hs).1
theorem zhF{h:List Op3}{o:List Int}(hs:zdq (doneL h)=some o):o.length<=6:=by have h1:=zm3 _ _ _ _ _ hs;have h2:=za7 (doneL h) 6;rw[h1,List.length_nil,Nat.zero_add];exact h2
theorem ze0{o:Option (List Int)}{e:Int}(h:∀r,o=some r->r.length<=6):(ze2 o e).length<=300:=by
 unfold ze2;split
 ·rename_i r;have:=zkZ (h r rfl);omega
 ·have:=zex e;omega
theorem zid:∀(k u:Nat),u<10 ^ (k+1)->(Lib.decDigits u).length<=k+1:=by
 intro k
 induction k with
 | zero =>intro u h;unfold Lib.decDigits;rw[dif_pos (by simpa using h)];exact Nat.le_refl _
 | succ k ih =>
   intro u h;unfold Lib.decDigits;split
   ·simp
   ·have h1:u / 10<10 ^ (k+1):=by rw[Nat.pow_succ]at h;omega
    have:=ih (u / 10) h1;rw[List.length_append,List.length_singleton];omega
end Go.Proofs.YthlhgiihngcobaaGreatDoor
