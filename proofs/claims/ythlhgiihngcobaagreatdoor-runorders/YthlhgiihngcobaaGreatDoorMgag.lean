/-
  PROVED HERE: plain facts, with no word of the program; plain facts on lists of ops, with no word of the program; plain facts on lists of ops, with no word of the program; plain facts on lists of edges, with no word of the program.
  Conditions: none but those that each theorem's own premises say.
-/
import Derived.WalkKit
set_option maxHeartbeats 32000000
set_option maxRecDepth 100000
namespace Go.Proofs.YthlhgiihngcobaaGreatDoor
def zhY:List Int->Int->List Int
 | [],n=>[n]
 | x::r,n=>if x=n then x::r else if n<x then n::x::r else x::zhY r n
def inB(l:List Int)(n:Int):Bool:=l.contains n
theorem zaT{l:List Int}{n:Int}:inB l n=true↔n∈l:=by simp[inB]
theorem zfn{l:List Int}{n:Int}:inB l n=false↔n ∉ l:=by simp[inB]
end Go.Proofs.YthlhgiihngcobaaGreatDoor
namespace Go.Proofs.YthlhgiihngcobaaGreatDoor
abbrev Op3:=Int × Int × Int
def zax(a:Int):Bool:=a == 3 || a == 4
def isOpB(o:Op3):Bool:=!(decide (o.1<1) || decide (6<o.1) || decide (o.2.1<1) || decide (4<o.2.1)) && (if zax o.2.1 then o.2.2 == 0 else decide (1<=o.2.2) && decide (o.2.2<=6))
def zao(l:List Op3)(t:Int):Bool:=l.any fun o=>o.1 == t && zax o.2.1
def chkFrom:List Op3->List Op3->Nat × Int
 | _,[]=>(0,0)
 | pre,o::r=>if isOpB o=false then(pre.length,1)else if zao pre o.1=true then(pre.length,6)else chkFrom (pre++[o]) r
def chk(l:List Op3):Nat × Int:=if 40<l.length then(0,4)else chkFrom [] l
def zcP:List Op3->Int->Int
 | [],_=>0
 | o::r,t=>if o.1=t/\3<=o.2.1 then o.2.1 else zcP r t
theorem zci{a:Op3}(pre r:List Op3)(h:isOpB a=false):chkFrom pre (a::r)=(pre.length,1):=by simp[chkFrom,h]
theorem zcj{a:Op3}{pre:List Op3}(r:List Op3)(h:isOpB a=true)(h2:zao pre a.1=true):chkFrom pre (a::r)=(pre.length,6):=by simp[chkFrom,h,h2]
theorem zdt{a:Op3}{pre:List Op3}(r:List Op3)(h:isOpB a=true)(h2:zao pre a.1=false):chkFrom pre (a::r)=chkFrom (pre++[a]) r:=by simp[chkFrom,h,h2]
theorem zg0(l:List Op3):∀pre,(chkFrom pre l).2=0->∀o∈l,isOpB o=true:=by
 induction l with
 | nil=>intro pre _ o ho;cases ho
 | cons a r ih =>
   intro pre h o ho;simp only[chkFrom]at h;by_cases h1:isOpB a=false
   ·simp[h1]at h
   ·rw[if_neg h1]at h;by_cases h2:zao pre a.1=true
    ·simp[h2]at h
    ·rw[if_neg h2]at h;rcases List.mem_cons.1 ho with rfl | hr
     ·simpa using h1
     ·exact ih _ h o hr
theorem zcT{o:Op3}(h:isOpB o=true):zax o.2.1=decide (3<=o.2.1):=by
 simp[isOpB]at h;obtain⟨h,-⟩:=h;simp only[zax];by_cases h3:o.2.1=3
 ·simp[h3]
 ·by_cases h4:o.2.1=4
  ·simp[h4]
  ·have:¬3<=o.2.1:=by omega
   simp[h3,h4,this]
theorem zd5(l:List Op3)(t:Int)(h:∀o∈l,isOpB o=true):(zcP l t=0)↔zao l t=false:=by
 induction l with
 | nil=>simp[zcP,zao]
 | cons a r ih =>
   have ha:=zcT (h a (List.mem_cons_self ..));have ih':=ih fun o ho=>h o (List.mem_cons_of_mem _ ho);simp only[zcP,zao,List.any_cons,ha]at ih' ⊢;by_cases hc:a.1=t/\3<=a.2.1
   ·rw[if_pos hc];simp[hc.1,hc.2];omega
   ·rw[if_neg hc,ih']
    have:(a.1 == t && decide (3<=a.2.1))=false:=by
     by_cases h1:a.1=t
     ·have:¬3<=a.2.1:=fun h3=>hc ⟨h1,h3⟩;simp[this]
     ·simp[h1]
    simp[this]
theorem zcV(l:List Op3)(h:l.length<=40):chk l=chkFrom [] l:=by unfold chk;rw[if_neg (by omega)]
end Go.Proofs.YthlhgiihngcobaaGreatDoor
namespace Go.Proofs.YthlhgiihngcobaaGreatDoor
abbrev zaa:=Int × Int
def zeG(o p:Op3):Bool:=o.1 != p.1 && (o.2.2 == p.2.2 && (o.2.1 == 2 || p.2.1 == 2))
def opAt(l:List Op3)(i:Nat):Op3:=l.getD i (0,0,0)
def zcM(l:List Op3)(i k:Nat):List zaa:=((List.range k).filter fun j=>decide (i<j) && zeG (opAt l i) (opAt l j)).map fun(j:Nat)=>((i:Int),(j:Int))
def zaW(l:List Op3)(i:Nat):List zaa:=(List.range i).flatMap fun k=>zcM l k l.length
def pairsL(l:List Op3):List zaa:=zaW l l.length
theorem zgE(l:List Op3)(i:Nat):zcM l i (i+1)=[]:=by unfold zcM;rw[List.map_eq_nil_iff,List.filter_eq_nil_iff];intro j hj;have:=List.mem_range.1 hj;simp;omega
theorem zj3{l:List Op3}{i k:Nat}(hik:i<k)(h:zeG (opAt l i) (opAt l k)=true):zcM l i (k+1)=zcM l i k++[((i:Int),(k:Int))]:=by unfold zcM;rw[List.range_succ,List.filter_append,List.map_append];simp[hik,h]
theorem ziy{l:List Op3}{i k:Nat}(h:zeG (opAt l i) (opAt l k)=false):zcM l i (k+1)=zcM l i k:=by unfold zcM;rw[List.range_succ,List.filter_append,List.map_append];simp[h]
theorem zf3(l:List Op3):zaW l 0=[]:=rfl
theorem zdB(l:List Op3)(i:Nat):zaW l (i+1)=zaW l i++zcM l i l.length:=by unfold zaW;rw[List.range_succ,List.flatMap_append];simp
theorem zgm(l:List Op3)(i k:Nat):(zcM l i k).length<=k:=by
 unfold zcM;rw[List.length_map];have:=List.length_filter_le (fun j=>decide (i<j) && zeG (opAt l i) (opAt l j)) (List.range k)
 rwa [List.length_range]at this
theorem zd2(l:List Op3)(i:Nat):(zaW l i).length<=i*l.length:=by
 induction i with
 | zero=>simp[zf3]
 | succ i ih =>rw[zdB,List.length_append,Nat.succ_mul];have:=zgm l i l.length;omega
def zbz(l:List Op3)(i k:Nat):List zaa:=zaW l i++zcM l i k
theorem zkc(l:List Op3)(i k:Nat)(hl:l.length<=40)(hi:i<=l.length)(hk:k<=l.length):(zbz l i k).length<=1640:=by unfold zbz;rw[List.length_append];have h1:=zgm l i k;have h2:=zd2 l i;have h3:i*l.length<=40*40:=Nat.mul_le_mul (by omega) hl;omega
theorem zhc(l:List Op3)(i:Nat):zbz l i (i+1)=zaW l i:=by unfold zbz;rw[zgE];simp
theorem ziA(l:List Op3)(i k:Nat)(h:k=l.length):zbz l i k=zaW l (i+1):=by unfold zbz;rw[h,zdB]
theorem zj2{l:List Op3}{i k:Nat}(hik:i<k)(h:zeG (opAt l i) (opAt l k)=true):zbz l i (k+1)=zbz l i k++[((i:Int),(k:Int))]:=by unfold zbz;rw[zj3 hik h,List.append_assoc]
theorem zit{l:List Op3}{i k:Nat}(h:zeG (opAt l i) (opAt l k)=false):zbz l i (k+1)=zbz l i k:=by unfold zbz;rw[ziy h]
theorem zeS(l:List Op3)(hl:l.length<=40):(pairsL l).length<=1600:=by have h2:=zd2 l l.length;have h3:l.length*l.length<=40*40:=Nat.mul_le_mul hl hl;unfold pairsL;omega
theorem zaQ{l:List Op3}{e:zaa}:e∈pairsL l↔∃i j:Nat,i<j/\j<l.length/\zeG (opAt l i) (opAt l j)=true/\e=((i:Int),(j:Int)):=by
 unfold pairsL zaW;rw[List.mem_flatMap];constructor
 ·rintro⟨i,hi,he⟩;unfold zcM at he;obtain⟨j,hj,rfl⟩:=List.mem_map.1 he;obtain⟨hj1,hj2⟩:=List.mem_filter.1 hj;simp at hj1 hj2;exact⟨i,j,hj2.1,hj1,hj2.2,rfl⟩
 ·rintro⟨i,j,hij,hj,ho,rfl⟩;refine⟨i,List.mem_range.2 (by omega),?_⟩;unfold zcM;exact List.mem_map.2 ⟨j,List.mem_filter.2 ⟨List.mem_range.2 hj,by simp[hij,ho]⟩,rfl⟩
theorem zaj{l:List Op3}{i:Nat}(h:i<l.length):opAt l i∈l:=by unfold opAt;simp[List.getD,List.getElem?_eq_getElem h]
end Go.Proofs.YthlhgiihngcobaaGreatDoor
namespace Go.Proofs.YthlhgiihngcobaaGreatDoor
def zeI(t:Int):Bool:=decide (1<=t) && decide (t<=6)
def zcd(e:zaa):Bool:=!zeI e.1 || !zeI e.2
def gchk(l:List zaa):Int:=if 60<l.length then 4 else if l.any zcd=true then 1 else 0
theorem zlc{l:List zaa}(h:gchk l=0):l.length<=60:=by
 unfold gchk at h;split at h
 ·cases h
 ·omega
theorem zgg{t:Int}:zeI t=true↔1<=t/\t<=6:=by simp[zeI]
theorem zkx{l:List zaa}(h:gchk l=0):∀e∈l,(1<=e.1/\e.1<=6)/\(1<=e.2/\e.2<=6):=by
 intro e he;unfold gchk at h;split at h
 ·cases h
 ·split at h
  ·cases h
  ·rename_i _ h2;have h3:l.any zcd=false:=by simpa using h2
   have h4:=List.any_eq_false.1 h3 e he;simp only[zcd,Bool.or_eq_true,Bool.not_eq_true',not_or]at h4;exact⟨zgg.1 (by simpa using h4.1),zgg.1 (by simpa using h4.2)⟩
abbrev zaK:=Nat->Bool
abbrev zoh:=Nat->Nat->Bool
def namedS(l:List zaa):zaK:=fun k=>l.any fun e=>e.1 == (k:Int) || e.2 == (k:Int)
def zmu(l:List zaa):zoh:=fun i k=>l.any fun e=>e.1 == (i:Int) && e.2 == (k:Int)
theorem zek(l:List zaa)(e:zaa)(k:Nat):namedS (l++[e]) k=(namedS l k || (e.1 == (k:Int) || e.2 == (k:Int))):=by simp[namedS]
end Go.Proofs.YthlhgiihngcobaaGreatDoor
