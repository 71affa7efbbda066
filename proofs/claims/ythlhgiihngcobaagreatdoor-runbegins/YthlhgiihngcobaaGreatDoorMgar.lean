/-
  PROVED HERE: plain facts, with no word of the program; plain facts, with no word of the program; history.readDeal, readItem and readOp answer as the plain readers say, whatever the text; history.readOp answers as the plain reader says, whatever the word.
  Conditions: none but those that each theorem's own premises say.
-/
import Derived.Test.YthlhgiihngcobaaGreatDoorMgam
import Derived.Test.YthlhgiihngcobaaGreatDoorMgan
import Derived.Test.YthlhgiihngcobaaGreatDoorMgao
import Derived.Test.YthlhgiihngcobaaGreatDoorMgaq
import Derived.Test.YthlhgiihngcobaaGreatDoorMgal
import Derived.Test.YthlhgiihngcobaaGreatDoorMgaj
import Derived.Lib.ItoaNum
import Derived.Lib.Join
import Derived.Test.YthlhgiihngcobaaGreatDoorMgak
import Derived.PlainAid
set_option maxHeartbeats 32000000
set_option maxRecDepth 100000
namespace Go.Proofs.YthlhgiihngcobaaGreatDoor
def zeU(n:Int):List UInt8:=if n=1 then[69,114,114,82,97,110,103,101]else if n=2 then[69,114,114,83,121,110,116,97,120]else if n=3 then[69,114,114,83,104,97,112,101]else if n=4 then[69,114,114,70,117,108,108]else if n=5 then[69,114,114,78,111,110,101]else if n=6 then[69,114,114,83,116,97,116,101]else if n=7 then[69,114,114,67,108,97,115,104]else if n=8 then[69,114,114,67,121,99,108,101]else[]
def zwb:List UInt8:=[105,108,108,115]
def zjX:List UInt8:=[118,97,108,117,101,115]
def zko:List UInt8:=[100,101,116,101,99,116]
def zw0:List UInt8:=[119,97,105,116,100,105,101]
def zpy:List UInt8:=[119,111,117,110,100,119,97,105,116]
def zoF:List UInt8:=[115,116,97,109,112]
def zoH:List UInt8:=[118,97,108,105,100]
def zv4:List UInt8:=[115,110,97,112]
def zjN:List UInt8:=[100,97,110,103,101,114]
def zxn:List UInt8:=[118,101,114,115,105,111,110,115]
def zAG:List UInt8:=[98,97,100]
def zyz:List UInt8:=[114,101,99,111,118,101,114,97,98,108,101]
def zyG:List UInt8:=[99,97,117,116,105,111,117,115]
def zyE:List UInt8:=[115,116,114,105,99,116]
def zyQ:List UInt8:=[114,105,103,111,114,111,117,115]
def dwW:List UInt8:=[100,105,114,116,121,119,114,105,116,101]
def drW:List UInt8:=[100,105,114,116,121,114,101,97,100]
def unW:List UInt8:=[117,110,114,101,112,101,97,116,101,100]
def loW:List UInt8:=[108,111,115,116]
def znj(l:List (List UInt8)):List UInt8:=l.foldl (fun t w=>(if t=[]then t else t++[32])++w) []
def ziS(t:List UInt8):List UInt8:=if t=[]then[45]else t
def zhW(l:List (List UInt8 × Bool)):List UInt8:=ziS (znj ((l.filter fun x=>x.2).map fun x=>x.1))
def zgY(l:List Op3):List UInt8:=if(chk l).2≠0 then zeU (chk l).2 else ziS (zkL l)
def zjF(o:Option (List Int))(e:Int):List UInt8:=match o with | some o=>zr4 o | none=>zeU e
def zra(l:List Int):List UInt8:=znj (l.map Lib.itoa)
def zeS(h:List Op3)(l:List UInt8):List UInt8 :=
 if l=zoV then zjF (zcF (doneL h)) 8
 else if l=zx5 then zjF (ziR (doneL h)) 5
 else if l=zpN then zhW [(zyz,zwB h),(zyG,zxz h),(zyE,zw1 h),(zyQ,zyd h)]
 else if l=zwb then zhW [(dwW,(zin h).1.1),(drW,(zin h).1.2.1),(unW,(zin h).1.2.2.1),(loW,(zin h).1.2.2.2)]
 else if l=zjX then zra (valsL (doneL h))
 else if l=zko then zgY (zbd h 0).1.1
 else if l=zw0 then zgY (zbd h 1).1.1
 else if l=zpy then zgY (zbd h 2).1.1
 else if l=zoF then zgY (zdc false h).1.1
 else if l=zoH then zr4 (outU 1 okV false h).1.1
 else if l=zv4 then zr4 (outU 2 okS false h).1.1
 else if l=zjN then zr4 (outU 3 zpZ false h).1.1
 else if l=zxn then zr4 (outU 4 okN true h).1.1
 else zAG
def zdO(h:List Op3)(l:List UInt8):List UInt8 × List Op3 :=
 if l.take 8=zfk then(match zbT (l.drop 8)with
  | none=>(zeU 2,h)
  | some ds=>if(chk (ds.take 41)).2≠0 then(zeU (chk (ds.take 41)).2,h)else(zBN,ds))
 else(zeS h l,h)
theorem zAa{ds:List Op3}(hc:(chk (ds.take 41)).2=0):ds.take 41=ds:=by have:=zaQ hc;rw[List.length_take]at this;exact List.take_of_length_le (by omega)
theorem zjp{h:List Op3}(hc:(chk h).2=0)(l:List UInt8):(chk (zdO h l).2).2=0:=by
 unfold zdO;split
 ·split
  ·exact hc
  ·rename_i ds _;split
   ·exact hc
   ·rename_i h1;have h2:(chk (ds.take 41)).2=0:=by simpa using h1
    have h3:=zAa h2;rw[h3]at h2;exact h2
 ·exact hc
theorem zfU(n:Int):(zeU n).length<=9:=by
 unfold zeU
 repeat' split
 all_goals simp
theorem zkP(n:Nat):∀(l:List (List UInt8)),(∀w∈l,w.length<=n)->(znj l).length<=l.length*(n+1):=by
 intro l hl
 have h:∀(l:List (List UInt8)) (t:List UInt8),(∀w∈l,w.length<=n)->(l.foldl (fun t w=>(if t=[]then t else t++[32])++w) t).length<=t.length+l.length*(n+1):=by
  intro l
  induction l with
  | nil=>intro t _;simp
  | cons a r ih =>
    intro t ha;have h1:=ih ((if t=[]then t else t++[32])++a) fun w hw=>ha w (List.mem_cons_of_mem _ hw);have h2:=ha a List.mem_cons_self
    have h3:((if t=[]then t else t++[32])++a).length<=t.length+1+n:=by
     rw[List.length_append];split
     ·omega
     ·rw[List.length_append,List.length_singleton];omega
    rw[List.foldl_cons,List.length_cons,Nat.succ_mul];omega
 have:=h l [] hl;rw[List.length_nil,Nat.zero_add]at this;exact this
theorem zkM{t:List UInt8}{n:Nat}(h:t.length<=n)(hn:1<=n):(ziS t).length<=n:=by
 unfold ziS;split
 ·simpa using hn
 ·exact h
theorem zju(l:List (List UInt8 × Bool))(h:l.length<=4)(hw:∀x∈l,x.1.length<=20):(zhW l).length<=100:=by
 refine zkM ?_ (by decide);have h1:=zkP 20 ((l.filter fun x=>x.2).map fun x=>x.1) fun w hm=>by obtain⟨x,hx,rfl⟩:=List.mem_map.1 hm;exact hw x (List.mem_filter.1 hx).1
 have h2:((l.filter fun x=>x.2).map fun x=>x.1).length<=4:=by rw[List.length_map];exact Nat.le_trans (List.length_filter_le _ _) h
 omega
theorem zwy(o:List Int):(zvU o).length<=2*o.length:=by
 refine zwr (P:=fun o=>(zvU o).length<=2*o.length) (Nat.le_refl _) (fun r d ih=>?_) o;rw[zvS,List.length_append,List.length_append,List.length_singleton,List.length_singleton];split
 ·omega
 ·rw[List.length_append,List.length_singleton];omega
theorem zoB{o:List Int}(h:o.length<=6):(zr4 o).length<=12:=by
 have:=zwy o;unfold zr4;split
 ·simp
 ·omega
theorem zlh{l:List Op3}(h:l.length<=46):(zgY l).length<=300:=by
 unfold zgY;split
 ·have:=zfU (chk l).2;omega
 ·refine zkM ?_ (by decide);have:=zo1 l;omega
theorem zzp(ds:List Int)(p:List Int->Bool):∀(f:Nat) (b r:List Int),tryO ds p f b=some r->r.length=b.length+f:=by
 intro f
 induction f with
 | zero =>
   intro b r h;unfold tryO at h;split at h
   ·rw[<-Option.some.inj h];rfl
   ·cases h
 | succ f ih =>
   intro b r h;unfold tryO at h;obtain⟨t,_,ht⟩:=List.exists_of_findSome?_eq_some h;split at ht
   ·cases ht
   ·have:=ih _ _ ht;rw[List.length_append,List.length_singleton]at this;omega
theorem zlk{h:List Op3}(hc:(chk h).2=0):∀o∈doneL h,1<=o.1/\o.1<=6:=fun o ho=>by have h1:=chk_ops hc o (List.mem_filter.1 ho).1;unfold isOpB at h1;simp at h1;omega
theorem zzN{h:List Op3}(hc:(chk h).2=0){o:List Int}(hs:zcF (doneL h)=some o):o.length<=6:=ziq (zhM (zlk hc) hs).1
theorem zoM{h:List Op3}{o:List Int}(hs:ziR (doneL h)=some o):o.length<=6:=by have h1:=zzp _ _ _ _ _ hs;have h2:=zcc (doneL h) 6;rw[h1,List.length_nil,Nat.zero_add];exact h2
theorem zjE{o:Option (List Int)}{e:Int}(h:∀r,o=some r->r.length<=6):(zjF o e).length<=300:=by
 unfold zjF;split
 ·rename_i r;have:=zoB (h r rfl);omega
 ·have:=zfU e;omega
theorem zb9{p:Prop}[Decidable p]{a b:List UInt8}{n:Nat}(ha:a.length<=n)(hb:b.length<=n):(if p then a else b).length<=n:=by
 split
 ·exact ha
 ·exact hb
theorem zjr:∀(k u:Nat),u<10 ^ (k+1)->(Lib.decDigits u).length<=k+1:=by
 intro k
 induction k with
 | zero =>intro u h;unfold Lib.decDigits;rw[dif_pos (by simpa using h)];exact Nat.le_refl _
 | succ k ih =>
   intro u h;unfold Lib.decDigits;split
   ·simp
   ·have h1:u / 10<10 ^ (k+1):=by rw[Nat.pow_succ]at h;omega
    have:=ih (u / 10) h1;rw[List.length_append,List.length_singleton];omega
theorem zx4(d:List Op3):(zra (valsL d)).length<=300:=by
 have h1:=zkP 7 ((valsL d).map Lib.itoa) fun w hw=>by obtain⟨x,hx,rfl⟩:=List.mem_map.1 hw;obtain⟨j,_,rfl⟩:=List.mem_map.1 hx;have h2:=zdt d d.length ((j:Int)+1);unfold Lib.itoa;rw[if_neg (by omega)];exact zjr 6 _ (by omega)
 have h2:((valsL d).map Lib.itoa).length=6:=by unfold valsL;simp
 unfold zra;omega
theorem zoL{h:List Op3}(hc:(chk h).2=0)(l:List UInt8):(zdO h l).1.length<=1000000:=by
 unfold zdO;split
 ·split
  ·have:=zfU 2;show(zeU 2).length<=_;omega
  ·rename_i ds _;split
   ·have:=zfU (chk (ds.take 41)).2;show(zeU _).length<=_;omega
   ·show zBN.length<=_;decide
 ·show(zeS h l).length<=_;have hst:∀way,(zgY (zbd h way).1.1).length<=300:=fun way=>zlh (zov h way).1;have hsp:(zgY (zdc false h).1.1).length<=300:=zlh (by rw[zib hc];exact Nat.le_trans (zaQ (zuc false hc)) (by decide));have hk:∀kind okF byN,(zr4 (outU kind okF byN h).1.1).length<=12:=fun kind okF byN=>zoB (zoW kind okF byN h).1;unfold zeS;refine zb9 (Nat.le_trans (zjE fun r hr=>zzN hc hr) (by decide)) (zb9 (Nat.le_trans (zjE fun r hr=>zoM hr) (by decide)) (zb9 (Nat.le_trans (zju _ (Nat.le_refl _) ?_) (by decide)) (zb9 (Nat.le_trans (zju _ (Nat.le_refl _) ?_) (by decide)) (zb9 (Nat.le_trans (zx4 _) (by decide)) (zb9 (Nat.le_trans (hst 0) (by decide)) (zb9 (Nat.le_trans (hst 1) (by decide)) (zb9 (Nat.le_trans (hst 2) (by decide)) (zb9 (Nat.le_trans hsp (by decide)) (zb9 (Nat.le_trans (hk ..) (by decide)) (zb9 (Nat.le_trans (hk ..) (by decide)) (zb9 (Nat.le_trans (hk ..) (by decide)) (zb9 (Nat.le_trans (hk ..) (by decide)) (by decide)))))))))))))
  ·intro x hx;rcases List.mem_cons.1 hx with rfl | hx
   ·show zyz.length<=20;decide
   rcases List.mem_cons.1 hx with rfl | hx
   ·show zyG.length<=20;decide
   rcases List.mem_cons.1 hx with rfl | hx
   ·show zyE.length<=20;decide
   rcases List.mem_cons.1 hx with rfl | hx
   ·show zyQ.length<=20;decide
   ·cases hx
  ·intro x hx;rcases List.mem_cons.1 hx with rfl | hx
   ·show dwW.length<=20;decide
   rcases List.mem_cons.1 hx with rfl | hx
   ·show drW.length<=20;decide
   rcases List.mem_cons.1 hx with rfl | hx
   ·show unW.length<=20;decide
   rcases List.mem_cons.1 hx with rfl | hx
   ·show loW.length<=20;decide
   ·cases hx
def zzE(h:{ h:List Op3 // (chk h).2=0 })(l:List UInt8):List UInt8 × { h:List Op3 // (chk h).2=0 }:=((zdO h.1 l).1,⟨(zdO h.1 l).2,zjp h.2 l⟩)
theorem zwC(h:{ h:List Op3 // (chk h).2=0 })(ls:List (List UInt8)):zeZ zzE h ls=zeZ zdO h.1 ls:=by
 induction ls generalizing h with
 | nil=>rfl
 | cons l r ih=>show _++10::zeZ zzE _ r=_++10::zeZ zdO _ r;rw[ih];rfl
theorem zuz:zo8 zdO [] zgC=zhP:=by decide +kernel
theorem zzs:zz0 (zo8 zdO []):=by
 have e:zo8 zdO []=zo8 zzE ⟨[],rfl⟩:=by
  funext s
  unfold zo8;rw[zwC]
 rw[e];refine zB4 (fun h l=>zoL h.2 l) ?_;rw[<-e];exact zuz
end Go.Proofs.YthlhgiihngcobaaGreatDoor
namespace Go.Proofs.YthlhgiihngcobaaGreatDoor
def zg0(xs:List (List UInt8)):List UInt8:=if xs=[]then[45]else Lib.join xs [32]
theorem zlT:∀(ys:List (List UInt8)) (b:List UInt8),b≠[]->ys.foldl (fun t w=>(if t=[]then t else t++[32])++w) b=b++Lib.joinTail [32] ys
 | [],b,_=>by simp[Lib.joinTail]
 | y::r,b,hb=>by rw[List.foldl_cons,if_neg hb,zlT r _ (by simp)];simp[Lib.joinTail,List.append_assoc]
theorem zpo{x:List UInt8}{r:List (List UInt8)}(hx:x≠[]):znj (x::r)=Lib.join (x::r) [32]:=by unfold znj;rw[List.foldl_cons,Lib.join_cons];exact zlT r _ (by simpa using hx)
theorem zup{x:List UInt8}{r:List (List UInt8)}(hx:x≠[]):Lib.join (x::r) [32]≠[]:=by rw[Lib.join_cons];intro e;exact hx (List.append_eq_nil_iff.1 e).1
theorem zgv{xs:List (List UInt8)}(h:∀w∈xs,w≠[]):ziS (znj xs)=zg0 xs:=by
 cases xs with
 | nil=>rfl
 | cons x r =>have hx:=h x List.mem_cons_self;unfold zg0 ziS;rw[zpo hx,if_neg (zup hx),if_neg (by simp)]
theorem zpr(n:Nat):∀(xs:List (List UInt8)),(∀w∈xs,w.length<=n)->(Lib.join xs [32]).length<=xs.length*(n+1):=by
 intro xs h
 have hl:∀ys:List (List UInt8),(∀w∈ys,w.length<=n)->Lib.lens ys<=ys.length*n:=by
  intro ys
  induction ys with
  | nil=>intro _;exact Nat.zero_le _
  | cons y r ih =>intro hy;have h1:=ih fun w hw=>hy w (List.mem_cons_of_mem _ hw);have h2:=hy y List.mem_cons_self;unfold Lib.lens at h1 ⊢;rw[List.map_cons,List.sum_cons,List.length_cons,Nat.succ_mul];omega
 cases xs with
 | nil=>exact Nat.zero_le _
 | cons x r =>have h1:=hl _ h;rw[Lib.join_length,List.length_singleton,List.length_cons,Nat.mul_succ];rw[List.length_cons]at h1;omega
theorem zuC{x:Int}(h:0<=x):Lib.itoa x≠[]:=by
 unfold Lib.itoa;rw[if_neg (by omega)];unfold Lib.decDigits;split
 ·simp
 ·simp
theorem zxX{x:Int}(h:0<=x/\x<10000000):(Lib.itoa x).length<=7:=by unfold Lib.itoa;rw[if_neg (by omega)];exact zjr 6 _ (by omega)
theorem zqO{d:Int}(h:1<=d/\d<=6):Lib.itoa d=[zAE d]:=by rcases(show d=1\/d=2\/d=3\/d=4\/d=5\/d=6 by omega)with rfl | rfl | rfl | rfl | rfl | rfl <;> decide +kernel
theorem zmi{o:List Int}(h:∀d∈o,1<=d/\d<=6):zr4 o=zg0 (o.map Lib.itoa):=by
 rw[<-zgv fun w hw=>by obtain⟨d,hd,rfl⟩:=List.mem_map.1 hw;exact zuC (by have:=h d hd;omega)]
 have e:∀(l:List Int) (t:List UInt8),(∀d∈l,1<=d/\d<=6)->(l.map Lib.itoa).foldl (fun t w=>(if t=[]then t else t++[32])++w) t=l.foldl (fun t d=>(if t=[]then t else t++[32])++[zAE d]) t:=by
  intro l
  induction l with
  | nil=>intro t _;rfl
  | cons d r ih =>intro t hl;rw[List.map_cons,List.foldl_cons,List.foldl_cons,zqO (hl d List.mem_cons_self)];exact ih _ fun x hx=>hl x (List.mem_cons_of_mem _ hx)
 unfold zr4 ziS znj zvU;rw[e o [] h]
theorem zt3{o:List Int}(hne:o≠[])(h:∀x∈o,0<=x):zra o=zg0 (o.map Lib.itoa):=by
 have hw:∀w∈o.map Lib.itoa,w≠[]:=fun w hw=>by obtain⟨d,hd,rfl⟩:=List.mem_map.1 hw;exact zuC (h d hd)
 rw[<-zgv hw];cases o with
 | nil=>exact absurd rfl hne
 | cons x r =>have hx:=hw _ List.mem_cons_self;unfold zra ziS;rw[List.map_cons,zpo hx,if_neg (zup hx)]
end Go.Proofs.YthlhgiihngcobaaGreatDoor
namespace Go.Proofs.YthlhgiihngcobaaGreatDoor
open Go.RowKit Go.PlainAid
theorem zbX(s:ByteArray):s.data.toList.length=s.size:=Array.length_toList
theorem zxo{s:ByteArray}{k:Nat}{c:UInt8}(h:s.data.toList[k]? = some c):bt s k=c.toNat:=by
 obtain⟨hk,hc⟩:=List.getElem?_eq_some_iff.1 h;unfold bt;rw[dif_pos (by rw[zbX]at hk;exact hk)];have:s[k]'(by rw[zbX]at hk;exact hk)=c:=by rw[<-hc];rfl
 rw[this]
theorem znC{s:ByteArray}{k:Nat}(hk:k<s.size):∃c:UInt8,s.data.toList.drop k=c::s.data.toList.drop (k+1)/\bt s k=c.toNat:=by
 have hk':k<s.data.toList.length:=by rw[zbX];exact hk
 exact⟨s.data.toList[k],List.drop_eq_getElem_cons hk',zxo (List.getElem?_eq_getElem hk')⟩
theorem zlR(n:Int)(c:UInt8)(r:List UInt8):zpG n (c::r)=if c<48\/57<c then none else zpG (min (10*n+((c.toNat:Int)-48)) 7) r:=rfl
theorem zoC{n:Int}{c:UInt8}(r:List UInt8)(h:(c.toNat:Int)<48\/57<(c.toNat:Int)):zpG n (c::r)=none:=by
 rw[zlR,if_pos];rcases h with h | h
 ·exact .inl (by rw[UInt8.lt_iff_toNat_lt];simp;omega)
 ·exact .inr (by rw[UInt8.lt_iff_toNat_lt];simp;omega)
theorem ztz{n:Int}{c:UInt8}(r:List UInt8)(h:48<=(c.toNat:Int))(h2:(c.toNat:Int)<=57):zpG n (c::r)=zpG (min (10*n+((c.toNat:Int)-48)) 7) r:=by
 rw[zlR,if_neg];rintro(h1 | h1)
 ·rw[UInt8.lt_iff_toNat_lt]at h1;simp at h1;omega
 ·rw[UInt8.lt_iff_toNat_lt]at h1;simp at h1;omega
theorem zfZ{x y:Int}{a b:Bool}(h:x=y)(h2:a=b):Ending.returned (.tuple #[.int .i64 x,.bool a])=.returned (.tuple #[.int .i64 y,.bool b]):=by rw[h,h2]
theorem zcW(s:ByteArray)(w:World)(hs:s.size<=9223372036854775807):Calls Tryz.prog 212 #[.string s] w fun e w'=>e=.returned (.tuple #[.int .i64 ((zbm s.data.toList).getD 0),.bool (zbm s.data.toList).isSome])/\w'=w:=by
 have hb:=get_bt s;have hds:=zbX s;have hdl:=Lib.toList_data s;by_cases h0:s.size=0
 ·have hnil:s.data.toList=[]:=List.length_eq_zero_iff.1 (by omega);have HR:Hid (zbm s.data.toList=none):=by show zbm s.data.toList=none;rw[hnil];rfl
  have hem:s.toList=[]:=by rw[hdl,hnil]
  clear hnil hdl hds;go_enter Tryz.func212,Tryz.ntmps212;go_wp2;go_ret2;exact⟨zfZ (by rw[HR.out];rfl) (by rw[HR.out];rfl),rfl⟩
 ·have hem:s.toList.isEmpty=false:=by
   rw[hdl];cases hq:s.data.toList with
   | nil=>rw[hq]at hds;simp at hds;omega
   | cons a r=>rfl
  obtain⟨c,hd0,hbt0⟩:=znC (s:=s) (k:=0) (by omega);rw[List.drop_zero]at hd0;have hpos:0<s.size:=by omega
  have HS:Hid (s.data.toList=c::s.data.toList.drop 1):=hd0;have HB0:Hid (bt s 0=c.toNat):=hbt0;have HL:Hid (s.data.toList.length=s.size):=hds;clear hdl hds hd0 hbt0 h0;by_cases hz:1<s.size/\bt s 0=48
  ·obtain⟨h1,h2⟩:=hz
   have HR:Hid (zbm s.data.toList=none):=by
    show zbm s.data.toList=none;rw[HS.out,ziF,if_pos];refine⟨fun e=>?_,?_⟩
    ·have:=HL.out;have:=congrArg List.length e;simp at this;omega
    ·rw[HB0.out]at h2;exact UInt8.toNat_inj.1 (by simp;omega)
   have h2':(bt s 0 == 48)=true:=by simpa using h2
   clear h2;go_enter Tryz.func212,Tryz.ntmps212;go_wp2;go_ret2;exact⟨zfZ (by rw[HR.out];rfl) (by rw[HR.out];rfl),rfl⟩
  ·have HR:Hid (zbm s.data.toList=zpG 0 s.data.toList):=by
    show zbm s.data.toList=zpG 0 s.data.toList;rw[HS.out,ziF,if_neg];rintro⟨e1,e2⟩;refine hz ⟨?_,?_⟩
    ·have h1:=HL.out;rcases Nat.lt_or_ge 1 s.size with h | h
     ·exact h
     ·exact absurd (List.drop_of_length_le (by omega)) e1
    ·rw[HB0.out,e2];rfl
   have hz':s.size<=1\/(1<s.size/\(bt s 0 == 48)=false):=by
    rcases Nat.lt_or_ge 1 s.size with h | h
    ·exact .inr ⟨h,by simp;exact fun e=>hz ⟨h,e⟩⟩
    ·exact .inl h
   clear hz;rcases hz' with h1 | ⟨h1,h2⟩
   all_goals
    go_enter Tryz.func212,Tryz.ntmps212;go_wp2
    go_loop [4,20] (fun v4 v20=>∃(k:Nat) (n:Int),k<=s.size/\v20=.int .i64 k/\v4=.int .i64 n/\0<=n/\n<=7/\zpG n (s.data.toList.drop k)=zbm s.data.toList) (fun _ v20=>s.size-(intOf v20).toNat)
    case atStart=>exact⟨0,0,Nat.zero_le _,rfl,rfl,by omega,by omega,by rw[HR.out,List.drop_zero]⟩
    case round =>
     obtain⟨k,n,hk,rfl,rfl,hn0,hn7,hck⟩:=hrel;have HK:Hid (zpG n (s.data.toList.drop k)=zbm s.data.toList):=hck;clear hck;by_cases hlt:k<s.size
     ·obtain⟨d,hd1,hd2⟩:=znC hlt;have HD1:Hid (s.data.toList.drop k=d::s.data.toList.drop (k+1)):=hd1;have HD2:Hid (bt s k=d.toNat):=hd2;clear hd1 hd2;by_cases hl:bt s k<48
      ·have HN:Hid (zbm s.data.toList=none):=by
        show zbm s.data.toList=none;rw[<-HK.out,HD1.out,zoC _ (.inl (by rw[<-HD2.out];exact hl))]
       go_wp2;go_ret2;exact⟨zfZ (by rw[HN.out];rfl) (by rw[HN.out];rfl),rfl⟩
      ·by_cases hg:57<bt s k
       ·have HN:Hid (zbm s.data.toList=none):=by
         show zbm s.data.toList=none;rw[<-HK.out,HD1.out,zoC _ (.inr (by rw[<-HD2.out];exact hg))]
        go_wp2;go_ret2;exact⟨zfZ (by rw[HN.out];rfl) (by rw[HN.out];rfl),rfl⟩
       ·have HG:=ztz (n:=n) (c:=d) (s.data.toList.drop (k+1)) (by rw[<-HD2.out];omega) (by rw[<-HD2.out];omega);rw[<-HD2.out]at HG;have HGG:Hid (zpG n (d::s.data.toList.drop (k+1))=zpG (min (10*n+(bt s k-48)) 7) (s.data.toList.drop (k+1))):=HG;clear HG;by_cases h7:10*n+(bt s k-48)<=7
        ·have HM:Hid (min (10*n+(bt s k-48)) 7=10*n+(bt s k-48)):=by show min (10*n+(bt s k-48)) 7=10*n+(bt s k-48);omega
         go_wp2
         go_round
         case rel=>exact⟨k+1,10*n+(bt s k-48),by omega,by go_num,rfl,by omega,h7,by rw[<-HK.out,HD1.out,HGG.out,HM.out]⟩
         case measure=>simp[intOf];omega
        ·have HM:Hid (min (10*n+(bt s k-48)) 7=7):=by show min (10*n+(bt s k-48)) 7=7;omega
         go_wp2
         go_round
         case rel=>exact⟨k+1,7,by omega,by go_num,by rw[if_pos (by omega)],by omega,by omega,by rw[<-HK.out,HD1.out,HGG.out,HM.out]⟩
         case measure=>simp[intOf];omega
     ·have HE:Hid (zbm s.data.toList=some n):=by
       show zbm s.data.toList=some n;rw[<-HK.out,List.drop_of_length_le (by rw[HL.out];omega)];rfl
      go_wp2;go_ret2;exact⟨zfZ (by rw[HE.out];rfl) (by rw[HE.out];rfl),rfl⟩
theorem zuT{α:Type}{l:List α}(h:l.length=3):∃a b c,l=[a,b,c]:=by
 match l,h with
 | [a,b,c],_=>exact⟨a,b,c,rfl⟩
theorem zeN{l:List UInt8}(h:l.length≠3):zbW l=0:=by
 match l,h with
 | [],_=>rfl
 | [_],_=>rfl
 | [_,_],_=>rfl
 | [_,_,_],h=>exact absurd rfl h
 | _::_::_::_::_,_=>rfl
theorem zBD{c d:UInt8}(h:(c.toNat:Int)=d.toNat):c=d:=UInt8.toNat_inj.1 (by omega)
theorem zgT(l:List UInt8)(c:UInt8):-1<=Lib.indexByte l c/\Lib.indexByte l c<l.length:=by
 induction l with
 | nil=>simp[Lib.indexByte]
 | cons a r ih =>
   simp only[Lib.indexByte,List.length_cons];by_cases h1:(a == c)=true
   ·rw[if_pos h1];omega
   ·rw[if_neg h1];by_cases h2:(Lib.indexByte r c == -1)=true
    ·rw[if_pos h2];omega
    ·rw[if_neg h2];omega
theorem zcR(s:ByteArray)(w:World):Calls Tryz.prog 211 #[.string s] w fun e w'=>e=.returned (.int .i64 (zbW s.data.toList))/\w'=w:=by
 have hb:=get_bt s;have HL:Hid (s.data.toList.length=s.size):=zbX s;by_cases h3:s.size=3
 ·obtain⟨x,c,y,hl⟩:=zuT (l:=s.data.toList) (by rw[HL.out];exact h3);have b0:bt s 0=x.toNat:=zxo (by rw[hl];rfl);have b1:bt s 1=c.toNat:=zxo (by rw[hl];rfl);have b2:bt s 2=y.toNat:=zxo (by rw[hl];rfl);have HX:Hid (zbW s.data.toList=if x=40/\y=41 then zsK c else 0):=by show zbW s.data.toList=_;rw[hl];rfl
  have HB:Hid (bt s 0=x.toNat/\bt s 1=c.toNat/\bt s 2=y.toNat):=⟨b0,b1,b2⟩;have hs0:(s.size:Int)=3:=by omega
  have hsn:2<s.size:=by omega
  clear hl b0 b1 b2;by_cases h0:bt s 0=40
  ·by_cases h2:bt s 2=41
   ·have HR:Hid (zbW s.data.toList=zsK c):=by
     show zbW s.data.toList=zsK c;rw[HX.out,if_pos];exact⟨zBD (by rw[<-HB.out.1,h0];rfl),zBD (by rw[<-HB.out.2.2,h2];rfl)⟩
    have h0':(bt s 0 != 40)=false:=by simpa using h0
    have h2':(bt s 2 != 41)=false:=by simpa using h2
    have hbc:UInt8.ofNat (bt s 1).toNat=c:=by rw[HB.out.2.1];simp
    have hbd:=zgT [97,98,99,100,101,102] c;simp only[List.length_cons,List.length_nil]at hbd;clear h0 h2 h3;go_enter Tryz.func211,Tryz.ntmps211;go_wp2_with (go_at_call 210;refine(indexByte_any _ _ _).mono ?_;rintro e w' ⟨rfl,rfl⟩);go_ret;exact⟨zkD (by rw[HR.out,zsK]),rfl⟩
   ·have HR:Hid (zbW s.data.toList=0):=by
     show zbW s.data.toList=0;rw[HX.out,if_neg];rintro⟨_,e⟩;exact h2 (by rw[HB.out.2.2,e];rfl)
    have h0':(bt s 0 != 40)=false:=by simpa using h0
    have h2':(bt s 2 != 41)=true:=by simpa using h2
    clear h0 h2 h3;go_enter Tryz.func211,Tryz.ntmps211;go_wp2;go_ret;exact⟨zkD (by rw[HR.out]),rfl⟩
  ·have HR:Hid (zbW s.data.toList=0):=by
    show zbW s.data.toList=0;rw[HX.out,if_neg];rintro⟨e,_⟩;exact h0 (by rw[HB.out.1,e];rfl)
   have h0':(bt s 0 != 40)=true:=by simpa using h0
   clear h0 h3;go_enter Tryz.func211,Tryz.ntmps211;go_wp2;go_ret;exact⟨zkD (by rw[HR.out]),rfl⟩
 ·have HR:Hid (zbW s.data.toList=0):=zeN (by rw[HL.out];exact h3);have h3':((s.size:Int) == 3)=false:=by simp;omega
  go_enter Tryz.func211,Tryz.ntmps211;go_wp2;go_ret;exact⟨zkD (by rw[HR.out]),rfl⟩
end Go.Proofs.YthlhgiihngcobaaGreatDoor
namespace Go.Proofs.YthlhgiihngcobaaGreatDoor
open Go.RowKit Go.PlainAid
def zB3(e:Ending)(r:Option Op3):Prop :=
 match r with
 | some o=>e=.returned (.tuple #[.agg #[.int .i64 o.1,.int .i64 o.2.1,.int .i64 o.2.2],.bool true])
 | none=>∃x y z:Int,e=.returned (.tuple #[.agg #[.int .i64 x,.int .i64 y,.int .i64 z],.bool false])
theorem zx1(c:UInt8):0<=zcr c/\zcr c<=4:=by have:=zgT [114,119,99,97] c;simp only[List.length_cons,List.length_nil]at this;unfold zcr;omega
theorem zjU(s:ByteArray)(k:Nat):(s.extract k s.size).data.toList=s.data.toList.drop k:=Lib.extract_to_end s k
theorem zcv(s:ByteArray)(w:World)(hs:s.size<=9223372036854775807):Calls Tryz.prog 175 #[.string s] w fun e w'=>zB3 e (zed s.data.toList)/\Below w.heap.size w w':=by
 have hb:=get_bt s;have HL:Hid (s.data.toList.length=s.size):=zbX s;have hdl:=Lib.toList_data s;by_cases h0:s.size=0
 ·have hnil:s.data.toList=[]:=List.length_eq_zero_iff.1 (by rw[HL.out];exact h0);have HR:Hid (zed s.data.toList=none):=by show zed s.data.toList=none;rw[hnil];rfl
  have hem:s.toList=[]:=by rw[hdl,hnil]
  clear hnil hdl;go_enter Tryz.func175,Tryz.ntmps175;go_wp2;refine bodyPost_ret (v:=.tuple #[.agg #[.int .i64 0,.int .i64 0,.int .i64 0],.bool false]) (by simp[results,Tryz.results175,go_sem]) rfl ⟨?_,?_⟩
  ·rw[HR.out];exact⟨0,0,0,rfl⟩
  ·go_grown
 ·obtain⟨c,hd0,hbt0⟩:=znC (s:=s) (k:=0) (by omega);rw[List.drop_zero]at hd0;have hem:s.toList.isEmpty=false:=by rw[hdl,hd0];rfl
  have hpos:0<s.size:=by omega
  have hbc:UInt8.ofNat (bt s 0).toNat=c:=by rw[hbt0];simp
  have hwb:=zx1 c;have hib:Lib.indexByte [114,119,99,97] c=zcr c-1:=by unfold zcr;omega
  have HS:Hid (s.data.toList=c::s.data.toList.drop 1):=hd0;clear hdl hd0 hbt0 h0;by_cases hw0:zcr c=0
  ·have HR:Hid (zed s.data.toList=none):=by
    show zed s.data.toList=none;rw[HS.out];show(if zcr c=0 then none else _)=none;rw[if_pos hw0]
   have hw0':(zcr c == 0)=true:=by simpa using hw0
   go_enter Tryz.func175,Tryz.ntmps175;go_wp2_with (first | (go_at_call 210;refine(indexByte_any _ _ _).mono ?_;rintro e w' ⟨rfl,rfl⟩));refine bodyPost_ret (v:=.tuple #[.agg #[.int .i64 0,.int .i64 0,.int .i64 0],.bool false]) (by simp[results,Tryz.results175,go_sem]) rfl ⟨?_,?_⟩
   ·rw[HR.out];exact⟨0,0,0,rfl⟩
   ·go_grown
  ·have HR:Hid (zed s.data.toList=ze2 (zcr c) (s.data.toList.drop 1)):=by
    show zed s.data.toList=ze2 (zcr c) (s.data.toList.drop 1);rw[HS.out];show(if zcr c=0 then none else ze2 (zcr c) (s.data.toList.drop 1))=_;rw[if_neg hw0];simp
   have hw0':(zcr c == 0)=false:=by simpa using hw0
   obtain⟨s1,hs1⟩:∃s1:ByteArray,s1=s.extract 1 s.size:=⟨_,rfl⟩;have hs1d:s1.data.toList=s.data.toList.drop 1:=by rw[hs1];exact zjU s 1
   have hs1z:s1.size=s.size-1:=by rw[<-zbX,hs1d,List.length_drop,HL.out]
   have hs1':s.extract 1 s.size=s1:=hs1.symm;have HS1:Hid (s1.data.toList=s.data.toList.drop 1):=hs1d;rw[<-hs1d]at HR;have hs1s:s1.size<=9223372036854775807:=by omega
   have HZ1:Hid (s1.data.toList.length=s1.size):=zbX s1;clear hs1 hs1d HS hs1z;cases hen:zaM (zcr c)with
   | true =>
     cases hD:zbm s1.data.toList with
     | none =>
       have HR':Hid (zed s.data.toList=none):=by show zed s.data.toList=none;rw[HR.out,ze2,hen,if_pos rfl,hD];rfl
       have HD:Hid (zbm s1.data.toList=none):=hD;clear hD HR;go_enter Tryz.func175,Tryz.ntmps175;go_wp2_with (first | (go_at_call 210;refine(indexByte_any _ _ _).mono ?_;rintro e w1 ⟨rfl,hw1⟩;subst hw1) | (go_at_call 140;refine(ends_any _ _).mono ?_;rintro e w2 ⟨rfl,hw2⟩;subst hw2) | (go_at_call 212;refine(zcW s1 _ hs1s).mono ?_;rintro e w3 ⟨rfl,hw3⟩;subst hw3;rw[HD.out]));refine bodyPost_ret (v:=.tuple #[.agg #[.int .i64 0,.int .i64 (zcr c),.int .i64 0],.bool false]) (by simp[results,Tryz.results175,go_sem]) rfl ⟨?_,?_⟩
       ·rw[HR'.out];exact⟨_,_,_,rfl⟩
       ·go_grown
     | some t =>
       have HR':Hid (zed s.data.toList=some (t,zcr c,0)):=by show zed s.data.toList=some (t,zcr c,0);rw[HR.out,ze2,hen,if_pos rfl,hD];rfl
       have HD:Hid (zbm s1.data.toList=some t):=hD;clear hD HR;go_enter Tryz.func175,Tryz.ntmps175;go_wp2_with (first | (go_at_call 210;refine(indexByte_any _ _ _).mono ?_;rintro e w1 ⟨rfl,hw1⟩;subst hw1) | (go_at_call 140;refine(ends_any _ _).mono ?_;rintro e w2 ⟨rfl,hw2⟩;subst hw2) | (go_at_call 212;refine(zcW s1 _ hs1s).mono ?_;rintro e w3 ⟨rfl,hw3⟩;subst hw3;rw[HD.out]));refine bodyPost_ret (v:=.tuple #[.agg #[.int .i64 t,.int .i64 (zcr c),.int .i64 0],.bool true]) (by simp[results,Tryz.results175,go_sem]) rfl ⟨?_,?_⟩
       ·rw[HR'.out];exact rfl
       ·go_grown
   | false =>
     by_cases h3:3<=s1.size
     ·obtain⟨sI,hI⟩:∃x:ByteArray,x=s1.extract (s1.size-3) s1.size:=⟨_,rfl⟩;obtain⟨sD,hD⟩:∃x:ByteArray,x=s1.extract 0 (s1.size-3):=⟨_,rfl⟩;have HI:Hid (sI.data.toList=s1.data.toList.drop (s1.data.toList.length-3)):=by show sI.data.toList=s1.data.toList.drop (s1.data.toList.length-3);rw[hI,zjU,HZ1.out]
      have hDd:sD.data.toList=s1.data.toList.take (s1.data.toList.length-3):=by rw[hD,Lib.extract_data,HZ1.out];simp
      have HD:Hid (sD.data.toList=s1.data.toList.take (s1.data.toList.length-3)):=hDd;have hDs:sD.size<=9223372036854775807:=by rw[<-zbX,hDd,List.length_take,HZ1.out];omega
      have hI':=hI.symm;have hD':=hD.symm;clear hI hD hDd;by_cases hit:zbW sI.data.toList=0
      ·have HR':Hid (zed s.data.toList=none):=by
        show zed s.data.toList=none;rw[HR.out,ze2,hen,if_neg (by simp),<-HI.out,if_pos hit]
       have HIT:Hid (zbW sI.data.toList=0):=hit;clear hit HR;go_enter Tryz.func175,Tryz.ntmps175;go_wp2_with (first | (go_at_call 210;refine(indexByte_any _ _ _).mono ?_;rintro e w1 ⟨rfl,hw1⟩;subst hw1) | (go_at_call 140;refine(ends_any _ _).mono ?_;rintro e w2 ⟨rfl,hw2⟩;subst hw2) | (go_at_call 211;refine(zcR sI _).mono ?_;rintro e w3 ⟨rfl,hw3⟩;subst hw3;rw[HIT.out]));refine bodyPost_ret (v:=.tuple #[.agg #[.int .i64 0,.int .i64 0,.int .i64 0],.bool false]) (by simp[results,Tryz.results175,go_sem]) rfl ⟨?_,?_⟩
       ·rw[HR'.out];exact⟨_,_,_,rfl⟩
       ·go_grown
      ·obtain⟨it,hit2⟩:∃n,zbW sI.data.toList=n:=⟨_,rfl⟩;have HIT:Hid (zbW sI.data.toList=it):=hit2;rw[hit2]at hit;have hit':(it == 0)=false:=by simpa using hit
       cases hdl:zbm sD.data.toList with
       | none =>
         have HR':Hid (zed s.data.toList=none):=by show zed s.data.toList=none;rw[HR.out,ze2,hen,if_neg (by simp),<-HI.out,hit2,if_neg hit,<-HD.out,hdl];rfl
         have HDL:Hid (zbm sD.data.toList=none):=hdl;clear hdl hit2 hit HR;go_enter Tryz.func175,Tryz.ntmps175;go_wp2_with (first | (go_at_call 210;refine(indexByte_any _ _ _).mono ?_;rintro e w1 ⟨rfl,hw1⟩;subst hw1) | (go_at_call 140;refine(ends_any _ _).mono ?_;rintro e w2 ⟨rfl,hw2⟩;subst hw2) | (go_at_call 211;refine(zcR sI _).mono ?_;rintro e w3 ⟨rfl,hw3⟩;subst hw3;rw[HIT.out]) | (go_at_call 212;refine(zcW sD _ hDs).mono ?_;rintro e w4 ⟨rfl,hw4⟩;subst hw4;rw[HDL.out]));refine bodyPost_ret (v:=.tuple #[.agg #[.int .i64 0,.int .i64 (zcr c),.int .i64 it],.bool false]) (by simp[results,Tryz.results175,go_sem]) rfl ⟨?_,?_⟩
         ·rw[HR'.out];exact⟨_,_,_,rfl⟩
         ·go_grown
       | some t =>
         have HR':Hid (zed s.data.toList=some (t,zcr c,it)):=by show zed s.data.toList=some (t,zcr c,it);rw[HR.out,ze2,hen,if_neg (by simp),<-HI.out,hit2,if_neg hit,<-HD.out,hdl];rfl
         have HDL:Hid (zbm sD.data.toList=some t):=hdl;clear hdl hit2 hit HR;go_enter Tryz.func175,Tryz.ntmps175;go_wp2_with (first | (go_at_call 210;refine(indexByte_any _ _ _).mono ?_;rintro e w1 ⟨rfl,hw1⟩;subst hw1) | (go_at_call 140;refine(ends_any _ _).mono ?_;rintro e w2 ⟨rfl,hw2⟩;subst hw2) | (go_at_call 211;refine(zcR sI _).mono ?_;rintro e w3 ⟨rfl,hw3⟩;subst hw3;rw[HIT.out]) | (go_at_call 212;refine(zcW sD _ hDs).mono ?_;rintro e w4 ⟨rfl,hw4⟩;subst hw4;rw[HDL.out]));refine bodyPost_ret (v:=.tuple #[.agg #[.int .i64 t,.int .i64 (zcr c),.int .i64 it],.bool true]) (by simp[results,Tryz.results175,go_sem]) rfl ⟨?_,?_⟩
         ·rw[HR'.out];exact rfl
         ·go_grown
     ·have HR':Hid (zed s.data.toList=none):=by
       show zed s.data.toList=none;rw[HR.out,ze2,hen,if_neg (by simp),if_pos (zeN (by rw[List.length_drop,HZ1.out];omega))]
      have HIT2:Hid (zbW s1.data.toList=0):=zeN (by rw[HZ1.out];omega);have HIT:Hid (zbW (s1.extract 0 s1.size).data.toList=0):=zeN (by rw[zjU,List.length_drop,HZ1.out];omega);clear HR;go_enter Tryz.func175,Tryz.ntmps175;go_wp2_with (first | (go_at_call 210;refine(indexByte_any _ _ _).mono ?_;rintro e w1 ⟨rfl,hw1⟩;subst hw1) | (go_at_call 140;refine(ends_any _ _).mono ?_;rintro e w2 ⟨rfl,hw2⟩;subst hw2) | (go_at_call 211;refine(zcR _ _).mono ?_;rintro e w3 ⟨rfl,hw3⟩;subst hw3;first | rw[HIT.out] | rw[HIT2.out]));refine bodyPost_ret (v:=.tuple #[.agg #[.int .i64 0,.int .i64 0,.int .i64 0],.bool false]) (by simp[results,Tryz.results175,go_sem]) rfl ⟨?_,?_⟩
      ·rw[HR'.out];exact⟨_,_,_,rfl⟩
      ·go_grown
end Go.Proofs.YthlhgiihngcobaaGreatDoor
