/-
  PROVED HERE: plain facts, with no word of the program; history.readDeal, readItem and readOp answer as the plain readers say, whatever the text.
  Conditions: none but those that each theorem's own premises say.
-/
import Derived.Test.YthlhgiihngcobaaGreatDoorMgaw
import Derived.Lib.Join
import Derived.Test.YthlhgiihngcobaaGreatDoorMgar
import Derived.Test.YthlhgiihngcobaaGreatDoorMgat
import Derived.PlainAid
set_option maxHeartbeats 32000000
set_option maxRecDepth 100000
namespace Go.Proofs.YthlhgiihngcobaaGreatDoor
def zeP(xs:List (List UInt8)):List UInt8:=if xs=[]then[45]else Lib.join xs [32]
theorem zgx:∀(ys:List (List UInt8)) (b:List UInt8),b≠[]->ys.foldl (fun t w=>(if t=[]then t else t++[32])++w) b=b++Lib.joinTail [32] ys
 | [],b,_=>by simp[Lib.joinTail]
 | y::r,b,hb=>by rw[List.foldl_cons,if_neg hb,zgx r _ (by simp)];simp[Lib.joinTail,List.append_assoc]
theorem zle{x:List UInt8}{r:List (List UInt8)}(hx:x≠[]):ziD (x::r)=Lib.join (x::r) [32]:=by unfold ziD;rw[List.foldl_cons,Lib.join_cons];exact zgx r _ (by simpa using hx)
theorem zm7{x:List UInt8}{r:List (List UInt8)}(hx:x≠[]):Lib.join (x::r) [32]≠[]:=by rw[Lib.join_cons];intro e;exact hx (List.append_eq_nil_iff.1 e).1
theorem zeX{xs:List (List UInt8)}(h:∀w∈xs,w≠[]):ziM (ziD xs)=zeP xs:=by
 cases xs with
 | nil=>rfl
 | cons x r =>have hx:=h x List.mem_cons_self;unfold zeP ziM;rw[zle hx,if_neg (zm7 hx),if_neg (by simp)]
theorem zhO(n:Nat):∀(xs:List (List UInt8)),(∀w∈xs,w.length<=n)->(Lib.join xs [32]).length<=xs.length*(n+1):=by
 intro xs h
 have hl:∀ys:List (List UInt8),(∀w∈ys,w.length<=n)->Lib.lens ys<=ys.length*n:=by
  intro ys
  induction ys with
  | nil=>intro _;exact Nat.zero_le _
  | cons y r ih =>intro hy;have h1:=ih fun w hw=>hy w (List.mem_cons_of_mem _ hw);have h2:=hy y List.mem_cons_self;unfold Lib.lens at h1 ⊢;rw[List.map_cons,List.sum_cons,List.length_cons,Nat.succ_mul];omega
 cases xs with
 | nil=>exact Nat.zero_le _
 | cons x r =>have h1:=hl _ h;rw[Lib.join_length,List.length_singleton,List.length_cons,Nat.mul_succ];rw[List.length_cons]at h1;omega
theorem znh{x:Int}(h:0<=x):Lib.itoa x≠[]:=by
 unfold Lib.itoa;rw[if_neg (by omega)];unfold Lib.decDigits;split
 ·simp
 ·simp
theorem zlw{x:Int}(h:0<=x/\x<10000000):(Lib.itoa x).length<=7:=by unfold Lib.itoa;rw[if_neg (by omega)];exact zid 6 _ (by omega)
theorem ziE{d:Int}(h:1<=d/\d<=6):Lib.itoa d=[zkU d]:=by rcases(show d=1\/d=2\/d=3\/d=4\/d=5\/d=6 by omega)with rfl | rfl | rfl | rfl | rfl | rfl <;> decide +kernel
theorem zjw{o:List Int}(h:∀d∈o,1<=d/\d<=6):zi8 o=zeP (o.map Lib.itoa):=by
 rw[<-zeX fun w hw=>by obtain⟨d,hd,rfl⟩:=List.mem_map.1 hw;exact znh (by have:=h d hd;omega)]
 have e:∀(l:List Int) (t:List UInt8),(∀d∈l,1<=d/\d<=6)->(l.map Lib.itoa).foldl (fun t w=>(if t=[]then t else t++[32])++w) t=l.foldl (fun t d=>(if t=[]then t else t++[32])++[zkU d]) t:=by
  intro l
  induction l with
  | nil=>intro t _;rfl
  | cons d r ih =>intro t hl;rw[List.map_cons,List.foldl_cons,List.foldl_cons,ziE (hl d List.mem_cons_self)];exact ih _ fun x hx=>hl x (List.mem_cons_of_mem _ hx)
 unfold zi8 ziM ziD zhA;rw[e o [] h]
end Go.Proofs.YthlhgiihngcobaaGreatDoor
namespace Go.Proofs.YthlhgiihngcobaaGreatDoor
open Go.RowKit Go.PlainAid
theorem zaZ(s:ByteArray):s.data.toList.length=s.size:=Array.length_toList
theorem zkY{s:ByteArray}{k:Nat}{c:UInt8}(h:s.data.toList[k]? = some c):bt s k=c.toNat:=by
 obtain⟨hk,hc⟩:=List.getElem?_eq_some_iff.1 h;unfold bt;rw[dif_pos (by rw[zaZ]at hk;exact hk)];have:s[k]'(by rw[zaZ]at hk;exact hk)=c:=by rw[<-hc];rfl
 rw[this]
theorem zho{s:ByteArray}{k:Nat}(hk:k<s.size):∃c:UInt8,s.data.toList.drop k=c::s.data.toList.drop (k+1)/\bt s k=c.toNat:=by
 have hk':k<s.data.toList.length:=by rw[zaZ];exact hk
 exact⟨s.data.toList[k],List.drop_eq_getElem_cons hk',zkY (List.getElem?_eq_getElem hk')⟩
theorem zfO(n:Int)(c:UInt8)(r:List UInt8):zhP n (c::r)=if c<48\/57<c then none else zhP (min (10*n+((c.toNat:Int)-48)) 7) r:=rfl
theorem zhS{n:Int}{c:UInt8}(r:List UInt8)(h:(c.toNat:Int)<48\/57<(c.toNat:Int)):zhP n (c::r)=none:=by
 rw[zfO,if_pos];rcases h with h | h
 ·exact .inl (by rw[UInt8.lt_iff_toNat_lt];simp;omega)
 ·exact .inr (by rw[UInt8.lt_iff_toNat_lt];simp;omega)
theorem zkP{n:Int}{c:UInt8}(r:List UInt8)(h:48<=(c.toNat:Int))(h2:(c.toNat:Int)<=57):zhP n (c::r)=zhP (min (10*n+((c.toNat:Int)-48)) 7) r:=by
 rw[zfO,if_neg];rintro(h1 | h1)
 ·rw[UInt8.lt_iff_toNat_lt]at h1;simp at h1;omega
 ·rw[UInt8.lt_iff_toNat_lt]at h1;simp at h1;omega
theorem zcW{x y:Int}{a b:Bool}(h:x=y)(h2:a=b):Ending.returned (.tuple #[.int .i64 x,.bool a])=.returned (.tuple #[.int .i64 y,.bool b]):=by rw[h,h2]
theorem zbx(s:ByteArray)(w:World)(hs:s.size<=9223372036854775807):Calls Tryz.prog 212 #[.string s] w fun e w'=>e=.returned (.tuple #[.int .i64 ((zaB s.data.toList).getD 0),.bool (zaB s.data.toList).isSome])/\w'=w:=by
 have hb:=get_bt s;have hds:=zaZ s;have hdl:=Lib.toList_data s;by_cases h0:s.size=0
 ·have hnil:s.data.toList=[]:=List.length_eq_zero_iff.1 (by omega);have HR:Hid (zaB s.data.toList=none):=by show zaB s.data.toList=none;rw[hnil];rfl
  have hem:s.toList=[]:=by rw[hdl,hnil]
  clear hnil hdl hds;go_enter Tryz.func212,Tryz.ntmps212;go_wp2;go_ret2;exact⟨zcW (by rw[HR.out];rfl) (by rw[HR.out];rfl),rfl⟩
 ·have hem:s.toList.isEmpty=false:=by
   rw[hdl];cases hq:s.data.toList with
   | nil=>rw[hq]at hds;simp at hds;omega
   | cons a r=>rfl
  obtain⟨c,hd0,hbt0⟩:=zho (s:=s) (k:=0) (by omega);rw[List.drop_zero]at hd0;have hpos:0<s.size:=by omega
  have HS:Hid (s.data.toList=c::s.data.toList.drop 1):=hd0;have HB0:Hid (bt s 0=c.toNat):=hbt0;have HL:Hid (s.data.toList.length=s.size):=hds;clear hdl hds hd0 hbt0 h0;by_cases hz:1<s.size/\bt s 0=48
  ·obtain⟨h1,h2⟩:=hz
   have HR:Hid (zaB s.data.toList=none):=by
    show zaB s.data.toList=none;rw[HS.out,zeh,if_pos];refine⟨fun e=>?_,?_⟩
    ·have:=HL.out;have:=congrArg List.length e;simp at this;omega
    ·rw[HB0.out]at h2;exact UInt8.toNat_inj.1 (by simp;omega)
   have h2':(bt s 0 == 48)=true:=by simpa using h2
   clear h2;go_enter Tryz.func212,Tryz.ntmps212;go_wp2;go_ret2;exact⟨zcW (by rw[HR.out];rfl) (by rw[HR.out];rfl),rfl⟩
  ·have HR:Hid (zaB s.data.toList=zhP 0 s.data.toList):=by
    show zaB s.data.toList=zhP 0 s.data.toList;rw[HS.out,zeh,if_neg];rintro⟨e1,e2⟩;refine hz ⟨?_,?_⟩
    ·have h1:=HL.out;rcases Nat.lt_or_ge 1 s.size with h | h
     ·exact h
     ·exact absurd (List.drop_of_length_le (by omega)) e1
    ·rw[HB0.out,e2];rfl
   have hz':s.size<=1\/(1<s.size/\(bt s 0 == 48)=false):=by
    rcases Nat.lt_or_ge 1 s.size with h | h
    ·exact .inr ⟨h,by simp;exact fun e=>hz ⟨h,e⟩⟩
    ·exact .inl h
   clear hz;rcases hz' with h1 | ⟨h1,h2⟩
   all_goals
    go_enter Tryz.func212,Tryz.ntmps212;go_wp2
    go_loop [4,20] (fun v4 v20=>∃(k:Nat) (n:Int),k<=s.size/\v20=.int .i64 k/\v4=.int .i64 n/\0<=n/\n<=7/\zhP n (s.data.toList.drop k)=zaB s.data.toList) (fun _ v20=>s.size-(intOf v20).toNat)
    case atStart=>exact⟨0,0,Nat.zero_le _,rfl,rfl,by omega,by omega,by rw[HR.out,List.drop_zero]⟩
    case round =>
     obtain⟨k,n,hk,rfl,rfl,hn0,hn7,hck⟩:=hrel;have HK:Hid (zhP n (s.data.toList.drop k)=zaB s.data.toList):=hck;clear hck;by_cases hlt:k<s.size
     ·obtain⟨d,hd1,hd2⟩:=zho hlt;have HD1:Hid (s.data.toList.drop k=d::s.data.toList.drop (k+1)):=hd1;have HD2:Hid (bt s k=d.toNat):=hd2;clear hd1 hd2;by_cases hl:bt s k<48
      ·have HN:Hid (zaB s.data.toList=none):=by
        show zaB s.data.toList=none;rw[<-HK.out,HD1.out,zhS _ (.inl (by rw[<-HD2.out];exact hl))]
       go_wp2;go_ret2;exact⟨zcW (by rw[HN.out];rfl) (by rw[HN.out];rfl),rfl⟩
      ·by_cases hg:57<bt s k
       ·have HN:Hid (zaB s.data.toList=none):=by
         show zaB s.data.toList=none;rw[<-HK.out,HD1.out,zhS _ (.inr (by rw[<-HD2.out];exact hg))]
        go_wp2;go_ret2;exact⟨zcW (by rw[HN.out];rfl) (by rw[HN.out];rfl),rfl⟩
       ·have HG:=zkP (n:=n) (c:=d) (s.data.toList.drop (k+1)) (by rw[<-HD2.out];omega) (by rw[<-HD2.out];omega);rw[<-HD2.out]at HG;have HGG:Hid (zhP n (d::s.data.toList.drop (k+1))=zhP (min (10*n+(bt s k-48)) 7) (s.data.toList.drop (k+1))):=HG;clear HG;by_cases h7:10*n+(bt s k-48)<=7
        ·have HM:Hid (min (10*n+(bt s k-48)) 7=10*n+(bt s k-48)):=by show min (10*n+(bt s k-48)) 7=10*n+(bt s k-48);omega
         go_wp2
         go_round
         case rel=>exact⟨k+1,10*n+(bt s k-48),by omega,by go_num,rfl,by omega,h7,by rw[<-HK.out,HD1.out,HGG.out,HM.out]⟩
         case measure=>simp[intOf];omega
        ·have HM:Hid (min (10*n+(bt s k-48)) 7=7):=by show min (10*n+(bt s k-48)) 7=7;omega
         go_wp2
         go_round
         case rel=>exact⟨k+1,7,by omega,by go_num,by rw[if_pos (by omega)],by omega,by omega,by rw[<-HK.out,HD1.out,HGG.out,HM.out]⟩
         case measure=>simp[intOf];omega
     ·have HE:Hid (zaB s.data.toList=some n):=by
       show zaB s.data.toList=some n;rw[<-HK.out,List.drop_of_length_le (by rw[HL.out];omega)];rfl
      go_wp2;go_ret2;exact⟨zcW (by rw[HE.out];rfl) (by rw[HE.out];rfl),rfl⟩
theorem zjp{α:Type}{l:List α}(h:l.length=3):∃a b c,l=[a,b,c]:=by
 match l,h with
 | [a,b,c],_=>exact⟨a,b,c,rfl⟩
theorem zcw{l:List UInt8}(h:l.length≠3):za1 l=0:=by
 match l,h with
 | [],_=>rfl
 | [_],_=>rfl
 | [_,_],_=>rfl
 | [_,_,_],h=>exact absurd rfl h
 | _::_::_::_::_,_=>rfl
theorem zn6{c d:UInt8}(h:(c.toNat:Int)=d.toNat):c=d:=UInt8.toNat_inj.1 (by omega)
theorem zdF(l:List UInt8)(c:UInt8):-1<=Lib.indexByte l c/\Lib.indexByte l c<l.length:=by
 induction l with
 | nil=>simp[Lib.indexByte]
 | cons a r ih =>
   simp only[Lib.indexByte,List.length_cons];by_cases h1:(a == c)=true
   ·rw[if_pos h1];omega
   ·rw[if_neg h1];by_cases h2:(Lib.indexByte r c == -1)=true
    ·rw[if_pos h2];omega
    ·rw[if_neg h2];omega
theorem zbt(s:ByteArray)(w:World):Calls Tryz.prog 211 #[.string s] w fun e w'=>e=.returned (.int .i64 (za1 s.data.toList))/\w'=w:=by
 have hb:=get_bt s;have HL:Hid (s.data.toList.length=s.size):=zaZ s;by_cases h3:s.size=3
 ·obtain⟨x,c,y,hl⟩:=zjp (l:=s.data.toList) (by rw[HL.out];exact h3);have b0:bt s 0=x.toNat:=zkY (by rw[hl];rfl);have b1:bt s 1=c.toNat:=zkY (by rw[hl];rfl);have b2:bt s 2=y.toNat:=zkY (by rw[hl];rfl);have HX:Hid (za1 s.data.toList=if x=40/\y=41 then zkL c else 0):=by show za1 s.data.toList=_;rw[hl];rfl
  have HB:Hid (bt s 0=x.toNat/\bt s 1=c.toNat/\bt s 2=y.toNat):=⟨b0,b1,b2⟩;have hs0:(s.size:Int)=3:=by omega
  have hsn:2<s.size:=by omega
  clear hl b0 b1 b2;by_cases h0:bt s 0=40
  ·by_cases h2:bt s 2=41
   ·have HR:Hid (za1 s.data.toList=zkL c):=by
     show za1 s.data.toList=zkL c;rw[HX.out,if_pos];exact⟨zn6 (by rw[<-HB.out.1,h0];rfl),zn6 (by rw[<-HB.out.2.2,h2];rfl)⟩
    have h0':(bt s 0 != 40)=false:=by simpa using h0
    have h2':(bt s 2 != 41)=false:=by simpa using h2
    have hbc:UInt8.ofNat (bt s 1).toNat=c:=by rw[HB.out.2.1];simp
    have hbd:=zdF [97,98,99,100,101,102] c;simp only[List.length_cons,List.length_nil]at hbd;clear h0 h2 h3;go_enter Tryz.func211,Tryz.ntmps211;go_wp2_with (go_at_call 210;refine(indexByte_any _ _ _).mono ?_;rintro e w' ⟨rfl,rfl⟩);go_ret;exact⟨zfJ (by rw[HR.out,zkL]),rfl⟩
   ·have HR:Hid (za1 s.data.toList=0):=by
     show za1 s.data.toList=0;rw[HX.out,if_neg];rintro⟨_,e⟩;exact h2 (by rw[HB.out.2.2,e];rfl)
    have h0':(bt s 0 != 40)=false:=by simpa using h0
    have h2':(bt s 2 != 41)=true:=by simpa using h2
    clear h0 h2 h3;go_enter Tryz.func211,Tryz.ntmps211;go_wp2;go_ret;exact⟨zfJ (by rw[HR.out]),rfl⟩
  ·have HR:Hid (za1 s.data.toList=0):=by
    show za1 s.data.toList=0;rw[HX.out,if_neg];rintro⟨e,_⟩;exact h0 (by rw[HB.out.1,e];rfl)
   have h0':(bt s 0 != 40)=true:=by simpa using h0
   clear h0 h3;go_enter Tryz.func211,Tryz.ntmps211;go_wp2;go_ret;exact⟨zfJ (by rw[HR.out]),rfl⟩
 ·have HR:Hid (za1 s.data.toList=0):=zcw (by rw[HL.out];exact h3);have h3':((s.size:Int) == 3)=false:=by simp;omega
  go_enter Tryz.func211,Tryz.ntmps211;go_wp2;go_ret;exact⟨zfJ (by rw[HR.out]),rfl⟩
end Go.Proofs.YthlhgiihngcobaaGreatDoor
