/-
  PROVED HERE: plain.Told tells nil as 0 and an api.Errno as its number; what package run's road reads of the listed package variables (Globs; lanelaw3.RunBegins returns true, whatever the text and the number, over whatever run.Run answers, if the; plain facts, with no word of the program; strings.Cut at one line's end; plain facts, with no word of the program; plain facts on lists of ops, with no word of the program; plain facts on lists of ops, with no word of the program; plain facts on lists of edges, with no word of the program.
  Conditions: none but those that each theorem's own premises say.
-/
import Derived.Test.YthlhgiihngcobaaGreatDoorAs
import Derived.Lib.LaidTab
import Derived.Lib.ItoaNum
import Derived.WalkKit
import Derived.WalkSpells
import Derived.Handy
import Derived.PlainAid
import Derived.Deep.Cut
import Derived.Lib.Strings
import Derived.Test.YthlhgiihngcobaaGreatDoorMgad
set_option maxHeartbeats 32000000
set_option maxRecDepth 100000
namespace Go.Proofs.YthlhgiihngcobaaGreatDoor
open Go.RowKit
def EtAt(w:World):Prop:=w.cell? ⟨1,0,none⟩=some (.iface 239 (.agg #[.pointer (some ⟨6,39,none⟩)]))
theorem EtAt.lt{w:World}(h:EtAt w):1<w.heap.size:=by
 unfold EtAt at h;rcases Nat.lt_or_ge 1 w.heap.size with h0 | h0
 ·exact h0
 ·simp[World.cell?,Array.getElem?_eq_none h0]at h
theorem EtAt.alloc{w:World}(h:EtAt w)(o:Obj):EtAt (w.alloc o):=by unfold EtAt;rw[World.cell?_alloc_lt _ _ ⟨1,0,none⟩ h.lt];exact h
theorem EtAt.below{w w1:World}{B:Nat}(h:EtAt w)(hb:Below B w w1)(hB:1<B):EtAt w1:=by unfold EtAt;rw[hb.cell (p:=⟨1,0,none⟩) hB];exact h
end Go.Proofs.YthlhgiihngcobaaGreatDoor
namespace Go.Proofs.YthlhgiihngcobaaGreatDoor
open Go.RowKit
def zBt(w:World):Prop:=∃a:Addr,w.cell? ⟨0,0,none⟩=some (.iface 337 (.pointer (some a)))/\w.cell? a=some (.string ⟨#[98,97,100]⟩)
def zen(w:World):Prop:=Lib.TabIs Tryz.prog w "internal/strconv.uint64pow10" .u64 Lib.pow10Tab
structure zgX(w:World):Prop where
 et:EtAt w
 bad:zBt w
 pow:zen w
theorem zu2:Tryz.prog.globalNamed "internal/strconv.uint64pow10" = some 3:=by kernel_rfl
theorem zen.lt{w:World}(h:zen w):3<w.heap.size:=by
 unfold zen Lib.TabIs World.var? at h;rw[zu2]at h;simp only[Option.bind_some]at h;rcases Nat.lt_or_ge 3 w.heap.size with h0 | h0
 ·exact h0
 ·simp[Array.getElem?_eq_none h0]at h
theorem zbY{w w1:World}(h:zen w)(hb:Below w.heap.size w w1):zen w1:=by have hl:=h.lt;unfold zen Lib.TabIs World.var? at h ⊢;rw[zu2]at h ⊢;simp only[Option.bind_some]at h ⊢;rw[hb.block _ hl];exact h
theorem zgX.below{w w1:World}(h:zgX w)(hb:Below w.heap.size w w1):zgX w1:=by refine⟨h.et.below hb h.et.lt,?_,zbY h.pow hb⟩;obtain⟨a,h1,h2⟩:=h.bad;exact⟨a,(hb.cell (p:=⟨0,0,none⟩) (World.block_lt_of_cell? w _ h1)).trans h1,(hb.cell (p:=a) (World.block_lt_of_cell? w a h2)).trans h2⟩
end Go.Proofs.YthlhgiihngcobaaGreatDoor
namespace Go.Proofs.YthlhgiihngcobaaGreatDoor
open Go.RowKit Go.PlainAid
theorem zk8{p:Prop}(h:p):Hid p:=h
def zBG(R:ByteArray->ByteArray):Prop:=∀(s:ByteArray) (w:World),s.size<=9223372036854775807->zgX w->Calls Tryz.prog 5 #[.string s] w fun e w'=>e=.returned (.string (R s))/\Below w.heap.size w w'
def zgC:ByteArray:=⟨#[104,105,115,116,111,114,121,32,119,50,40,97,41,32,114,49,40,97,41,32,99,49,32,99,50,10,111,114,100,101,114,10,102,108,121,10,102,97,99,101,115,10]⟩
def zhP:ByteArray:=⟨#[111,107,10,50,32,49,10,98,97,100,10,45,10]⟩
def ziA:ByteArray:=⟨#[116,111,111,32,108,111,110,103,10]⟩
structure zz0(R:ByteArray->ByteArray):Prop where
 fact:R zgC=zhP
 long:∀s,3000<s.size->R s=ziA
 size:∀s,(R s).size<=9223372036854775807
 beg:∀(s:ByteArray) (k:Nat),s.size<=3000->k<=s.size->(k=0\/k=s.size\/bt s (k-1)=10)->(R (s.extract 0 k)).size<=(R s).size/\(R s).extract 0 (R (s.extract 0 k)).size=R (s.extract 0 k)
theorem zxJ{R:ByteArray->ByteArray}(hR:zBG R)(hB:zz0 R)(s:ByteArray)(many:Int)(w:World)(hs:s.size<=9223372036854775807)(hG:zgX w):Calls Tryz.prog 3 #[.string s,.int .i64 many] w fun e w'=>e=.returned (.bool true)/\Below w.heap.size w w':=by
 have HF:Hid (Calls Tryz.prog 5 #[.string zgC] w fun e w'=>e=.returned (.string zhP)/\Below w.heap.size w w'):=by have:=hR zgC w (by decide) hG;rw[hB.fact]at this;exact this
 have HRU:Hid (∀(s:ByteArray) (W:World),s.size<=9223372036854775807->Below w.heap.size w W->Calls Tryz.prog 5 #[.string s] W fun e w'=>e=.returned (.string (R s))/\Below W.heap.size W w'):=fun s W hs hb=>hR s W hs (hG.below hb);have HB:=zk8 hB;have hb:=get_bt s;clear hR hB hG;unfold zgC zhP at HF;go_enter Tryz.func3,Tryz.ntmps3;go_wp2_with fail;refine HF.out.mono ?_;rintro e w1 ⟨rfl,hb1⟩;have HB1:=zk8 hb1;clear hb1 HF;by_cases h3:3000<s.size
 ·have h3':(3000:Int)<(s.size:Int):=by omega
  have HC:Hid (Calls Tryz.prog 5 #[.string s] w1 fun e w'=>e=.returned (.string ziA)/\Below w1.heap.size w1 w'):=by have:=HRU.out s w1 hs HB1.out;rw[HB.out.long s h3]at this;exact this
  unfold ziA at HC;go_wp2_with fail;refine HC.out.mono ?_;rintro e w2 ⟨rfl,hb2⟩;have HB2:Hid (Below w.heap.size w w2):=HB1.out.trans (hb2.mono HB1.out.size);clear hb2;go_wp2_with fail;go_ret;exact⟨rfl,HB2.out⟩
 ·have h3':¬(3000:Int)<(s.size:Int):=by omega
  go_wp2_with fail
  go_loopw [7,8] (fun v7 v8 wr=>∃k n:Nat,k<=s.size/\v7=.int .i64 k/\v8=.int .i64 n/\n<=k/\(k=0\/bt s (k-1)=10\/(n:Int)<many)/\wr=w1) (fun v7 _ _=>s.size-(intOf v7).toNat)
  case atStart=>exact⟨0,0,Nat.zero_le _,rfl,rfl,Nat.le_refl _,.inl rfl,rfl⟩
  case round =>
   obtain⟨k,n,hk,rfl,rfl,hnk,hinv,hwr⟩:=hrel;rw[hwr];clear hwr;have HINV:=zk8 hinv;clear hinv;by_cases hgo:k<s.size/\(n:Int)<many
   ·obtain⟨h1,h2⟩:=hgo;have h1':(k:Int)<(s.size:Int):=by omega
    by_cases hc:bt s k=10
    ·go_wp2_with fail;go_roundw
     case rel=>exact⟨k+1,n+1,by omega,by go_num,by go_num,by omega,.inr (.inl (by simpa using hc)),trivial⟩
     case measure=>simp[intOf];omega
    ·have hc':(bt s k == 10)=false:=by simpa using hc
     have HN:=zk8 h2;go_wp2_with fail;go_roundw
     case rel=>exact⟨k+1,n,by omega,by go_num,rfl,by omega,.inr (.inr HN.out),trivial⟩
     case measure=>simp[intOf];omega
   ·have HK:Hid (k=0\/k=s.size\/bt s (k-1)=10):=by
     show _\/_;rcases HINV.out with h | h | h
     ·exact .inl h
     ·exact .inr (.inr h)
     ·exact .inr (.inl (by omega))
    obtain⟨e1,e2⟩:=HB.out.beg s k (by omega) hk HK.out;have HS1:=zk8 e1;obtain⟨a,ha⟩:∃a,s.extract 0 k=a:=⟨_,rfl⟩;have HZ1:=zk8 (HB.out.size a);have HZ2:=zk8 (HB.out.size s);rw[ha]at e1 e2;have has:a.size<=9223372036854775807:=by rw[<-ha,ByteArray.size_extract];omega
    have HC1:=zk8 (HRU.out a w1 has HB1.out);obtain⟨x,hx⟩:∃x,R a=x:=⟨_,rfl⟩;obtain⟨y,hy⟩:∃y,R s=y:=⟨_,rfl⟩;have HRS:Hid (∀W,Below w.heap.size w W->Calls Tryz.prog 5 #[.string s] W fun e w'=>e=.returned (.string y)/\Below W.heap.size W w'):=fun W hb=>by rw[<-hy];exact HRU.out s W hs hb
    rw[hx]at e1 e2 HC1 HZ1;rw[hy]at e1 e2 HZ2;have z1:=HZ1.out;have z2:=HZ2.out;have e1':(x.size:Int)<=(y.size:Int):=by omega
    clear hx hy has HRU HB HK HINV HS1 HZ1 HZ2;have hkk:(k:Int)<=(s.size:Int):=by omega
    by_cases h1:k<s.size
    ·have h1':(k:Int)<(s.size:Int):=by omega
     have h2:¬(n:Int)<many:=fun h=>hgo ⟨h1,h⟩;go_wp2_with fail;refine HC1.out.mono ?_;rintro e w2 ⟨rfl,hb2⟩;have HB2:Hid (Below w.heap.size w w2):=HB1.out.trans (hb2.mono HB1.out.size);clear hb2;go_wp2_with fail;refine(HRS.out w2 HB2.out).mono ?_;rintro e w3 ⟨rfl,hb3⟩;have HB3:Hid (Below w.heap.size w w3):=HB2.out.trans (hb3.mono HB2.out.size);clear hb3;go_wp2_with fail;go_ret;exact⟨rfl,HB3.out⟩
    ·have h1':¬(k:Int)<(s.size:Int):=by omega
     go_wp2_with fail;refine HC1.out.mono ?_;rintro e w2 ⟨rfl,hb2⟩;have HB2:Hid (Below w.heap.size w w2):=HB1.out.trans (hb2.mono HB1.out.size);clear hb2;go_wp2_with fail;refine(HRS.out w2 HB2.out).mono ?_;rintro e w3 ⟨rfl,hb3⟩;have HB3:Hid (Below w.heap.size w w3):=HB2.out.trans (hb3.mono HB2.out.size);clear hb3;go_wp2_with fail;go_ret;exact⟨rfl,HB3.out⟩
end Go.Proofs.YthlhgiihngcobaaGreatDoor
namespace Go.Proofs.YthlhgiihngcobaaGreatDoor
open Go.PlainAid
def linesT(acc:List UInt8):List UInt8->List (List UInt8)
 | []=>if acc=[]then[]else[acc]
 | c::r=>if c=10 then acc::linesT [] r else linesT (acc++[c]) r
section
variable {S:Type} (f:S->List UInt8->List UInt8 × S)
def zeZ:S->List (List UInt8)->List UInt8
 | _,[]=>[]
 | h,l::r=>(f h l).1++10::zeZ (f h l).2 r
def stL:S->List (List UInt8)->S
 | h,[]=>h
 | h,l::r=>stL (f h l).2 r
theorem zpz(h:S)(a b:List (List UInt8)):zeZ f h (a++b)=zeZ f h a++zeZ f (stL f h a) b:=by
 induction a generalizing h with
 | nil=>rfl
 | cons l r ih=>show _++10::zeZ f _ (r++b)=_;rw[ih];simp[zeZ,stL]
theorem zxA{N:Nat}(hN:∀h l,(f h l).1.length<=N)(h:S)(a:List (List UInt8)):(zeZ f h a).length<=a.length*(N+1):=by
 induction a generalizing h with
 | nil=>exact Nat.zero_le _
 | cons l r ih =>have h1:=hN h l;have h2:=ih (f h l).2;show((f h l).1++10::zeZ f (f h l).2 r).length<=_;rw[List.length_append,List.length_cons,List.length_cons,Nat.succ_mul];omega
def zo8(h0:S)(s:ByteArray):ByteArray:=if 3000<s.size then ziA else⟨(zeZ f h0 (linesT [] s.data.toList)).toArray⟩
end
theorem zi2(acc l:List UInt8):(linesT acc l).length<=l.length+1:=by
 induction l generalizing acc with
 | nil=>unfold linesT;split <;> simp
 | cons c r ih =>
   unfold linesT;split
   ·have:=ih [];simp;omega
   ·have:=ih (acc++[c]);simp;omega
theorem zrL(acc u v:List UInt8):linesT acc (u++10::v)=linesT acc (u++[10])++linesT [] v:=by
 induction u generalizing acc with
 | nil=>simp[linesT]
 | cons c r ih =>
   rw[List.cons_append,List.cons_append];show(if c=10 then acc::linesT [] (r++10::v)else linesT (acc++[c]) (r++10::v))=(if c=10 then acc::linesT [] (r++[10])else linesT (acc++[c]) (r++[10]))++linesT [] v;split
   ·rw[ih []];rfl
   ·exact ih _
theorem zjT{u v:List UInt8}(h:u=[]\/u.getLast? = some 10):linesT [] (u++v)=linesT [] u++linesT [] v:=by
 rcases h with rfl | h
 ·rfl
 ·obtain⟨r,rfl⟩:∃r,u=r++[10]:=by
   rcases List.eq_nil_or_concat u with rfl | ⟨r,x,rfl⟩
   ·cases h
   ·rw[List.concat_eq_append]at h ⊢;rw[List.getLast?_append]at h;simp at h;exact⟨r,by rw[h]⟩
  rw[List.append_assoc];exact zrL [] r v
theorem zs2{s t:ByteArray}(h:s.data.toList=t.data.toList):s=t:=by cases s;cases t;simpa using h
theorem zc9(s:ByteArray):s.data.toList.length=s.size:=Array.length_toList
theorem zzY{s:ByteArray}{k:Nat}(hk:k<s.size):bt s k=((s.data.toList[k]'(by rw[zc9];exact hk)).toNat:Int):=by unfold bt;rw[dif_pos hk];rfl
theorem zyh{s:ByteArray}{k:Nat}(hk:k<=s.size)(h:k=0\/bt s (k-1)=10):(s.data.toList.take k)=[]\/(s.data.toList.take k).getLast? = some 10:=by
 rcases Nat.eq_zero_or_pos k with e | e
 ·left;rw[e];rfl
 ·right
  have h1:bt s (k-1)=10:=by
   rcases h with h | h
   ·omega
   ·exact h
  rw[zzY (by omega)]at h1;have hl:k-1<s.data.toList.length:=by rw[zc9];omega
  have h2:s.data.toList[k-1]=10:=UInt8.toNat_inj.1 (by show _=10;omega);rw[List.getLast?_eq_getElem?,List.length_take,Nat.min_eq_left (by rw[zc9];exact hk),List.getElem?_take_of_lt (by omega),List.getElem?_eq_getElem hl,h2]
theorem zyk(s:ByteArray)(k:Nat):(s.extract 0 k).data.toList=s.data.toList.take k:=by rw[Lib.extract_data];simp
theorem zB4{S:Type}{f:S->List UInt8->List UInt8 × S}{h0:S}(hN:∀h l,(f h l).1.length<=1000000)(hf:zo8 f h0 zgC=zhP):zz0 (zo8 f h0):=by
 refine⟨hf,fun s h=>if_pos h,fun s=>?_,fun s k hs hk hb=>?_⟩
 ·unfold zo8;split
  ·decide
  ·have h1:=zxA f hN h0 (linesT [] s.data.toList);have h2:=zi2 [] s.data.toList;rw[zc9]at h2;show((zeZ f h0 (linesT [] s.data.toList)).toArray).size<=_;rw[List.size_toArray];refine Nat.le_trans h1 (Nat.le_trans (Nat.mul_le_mul_right _ (show _<=3001 by omega)) (by decide))
 ·have hz:(s.extract 0 k).size=k:=by rw[ByteArray.size_extract];omega
  obtain⟨r,hr⟩:∃r,linesT [] s.data.toList=linesT [] (s.data.toList.take k)++r:=by
   rcases hb with hb | hb | hb
   ·subst hb;exact⟨_,rfl⟩
   ·subst hb;rw[<-zc9,List.take_length];exact⟨[],by simp⟩
   ·refine⟨linesT [] (s.data.toList.drop k),?_⟩;rw[<-zjT (zyh hk (.inr hb)),List.take_append_drop]
  have e1:zo8 f h0 (s.extract 0 k)=⟨(zeZ f h0 (linesT [] (s.data.toList.take k))).toArray⟩:=by unfold zo8;rw[if_neg (by omega),zyk s k]
  have e2:zo8 f h0 s=⟨(zeZ f h0 (linesT [] (s.data.toList.take k))++zeZ f (stL f h0 (linesT [] (s.data.toList.take k))) r).toArray⟩:=by unfold zo8;rw[if_neg (by omega),hr,zpz]
  rw[e1,e2];generalize zeZ f h0 (linesT [] (s.data.toList.take k))=A;generalize zeZ f (stL f h0 (linesT [] (s.data.toList.take k))) r=C;refine⟨?_,?_⟩
  ·show A.toArray.size<=(A++C).toArray.size;simp
  ·refine zs2 ?_;rw[Lib.extract_data];show List.take (A.toArray.size-0) (List.drop 0 (A++C))=A;simp
end Go.Proofs.YthlhgiihngcobaaGreatDoor
namespace Go.Proofs.YthlhgiihngcobaaGreatDoor
open Go.RowKit
theorem index_nl(s:ByteArray)(w:World):Calls Tryz.prog 39 #[.string s,.string ⟨#[10]⟩] w fun e w'=>e=.returned (.int .i64 (Lib.indexByte s.data.toList 10))/\w'=w:=by
 go_enter Tryz.func39,Tryz.ntmps39;go_wp2_with (go_at_call 102;refine(indexByte_lite _ _ _).mono ?_;rintro e w' ⟨rfl,rfl⟩)
 ·have h:([10] == s.toList)=true:=by assumption
  go_ret;refine⟨?_,rfl⟩;have e:s.data.toList=[10]:=by rw[<-Lib.toList_data];exact(beq_iff_eq.1 h).symm
  rw[e];simp[Lib.indexByte]
 ·go_ret;exact⟨rfl,rfl⟩
theorem lcutLite_hit(u v:List UInt8)(w:World)(h:(10:UInt8) ∉ u)(hs:(u++10::v).length<=9223372036854775807):Calls Tryz.prog 17 #[.string ⟨(u++10::v).toArray⟩,.string ⟨#[10]⟩] w fun e w'=>e=.returned (.tuple #[.string ⟨u.toArray⟩,.string ⟨v.toArray⟩,.bool true])/\w'=w.drew:=by
 have hix:=zfG u v 10 h;have e1:(⟨(u++10::v).toArray⟩:ByteArray).extract 0 u.length=⟨u.toArray⟩:=za7 (by rw[Lib.extract_data];simp);have e2:(⟨(u++10::v).toArray⟩:ByteArray).extract (u.length+1) (⟨(u++10::v).toArray⟩:ByteArray).size=⟨v.toArray⟩:=za7 (by rw[Lib.extract_to_end];simp[List.drop_append]);have hz:(⟨(u++10::v).toArray⟩:ByteArray).size=u.length+v.length+1:=by show(u++10::v).toArray.size=_;simp;omega
 have hl:u.length+v.length+1<=9223372036854775807:=by simp at hs;omega
 obtain⟨s,hsd⟩:∃s:ByteArray,s=⟨(u++10::v).toArray⟩:=⟨_,rfl⟩;have hsl:s.data.toList=u++10::v:=by rw[hsd]
 rw[<-hsd]at e1 e2 hz ⊢;rw[hz]at e2;have HX:Hid (Lib.indexByte s.data.toList 10=u.length):=by show Lib.indexByte s.data.toList 10=u.length;rw[hsl];exact hix
 clear hix hsl hsd hs h;go_enter Tryz.func17,Tryz.ntmps17;go_wp2_with (go_at_call 39;refine(index_nl _ _).mono ?_;rintro e w' ⟨rfl,rfl⟩;rw[HX.out]);go_region;go_wp2;go_ret3;exact⟨rfl,rfl⟩
theorem lcutLite_miss(s:ByteArray)(w:World)(h:(10:UInt8) ∉ s.data.toList):Calls Tryz.prog 17 #[.string s,.string ⟨#[10]⟩] w fun e w'=>e=.returned (.tuple #[.string s,.string ⟨#[]⟩,.bool false])/\w'=w:=by have HX:Hid (Lib.indexByte s.data.toList 10=-1):=ze0 _ _ h;clear h;go_enter Tryz.func17,Tryz.ntmps17;go_wp2_with (go_at_call 39;refine(index_nl _ _).mono ?_;rintro e w' ⟨rfl,rfl⟩;rw[HX.out]);go_ret3;exact⟨rfl,rfl⟩
theorem zxI(u v:List UInt8)(w:World)(h:(10:UInt8) ∉ u)(hs:(u++10::v).length<=9223372036854775807):Calls Tryz.prog 13 #[.string ⟨(u++10::v).toArray⟩,.string ⟨#[10]⟩] w fun e w'=>e=.returned (.tuple #[.string ⟨u.toArray⟩,.string ⟨v.toArray⟩,.bool true])/\w'=w.drew:=by go_enter Tryz.func13,Tryz.ntmps13;go_wp2_with (go_at_call 17;refine(lcutLite_hit u v _ h hs).mono ?_;rintro e w' ⟨rfl,rfl⟩);go_ret3;exact⟨rfl,rfl⟩
theorem zuR(s:ByteArray)(w:World)(h:(10:UInt8) ∉ s.data.toList):Calls Tryz.prog 13 #[.string s,.string ⟨#[10]⟩] w fun e w'=>e=.returned (.tuple #[.string s,.string ⟨#[]⟩,.bool false])/\w'=w:=by go_enter Tryz.func13,Tryz.ntmps13;go_wp2_with (go_at_call 17;refine(lcutLite_miss s _ h).mono ?_;rintro e w' ⟨rfl,rfl⟩);go_ret3;exact⟨rfl,rfl⟩
theorem zr2(acc u r:List UInt8)(h:(10:UInt8) ∉ u):linesT acc (u++10::r)=(acc++u)::linesT [] r:=by
 induction u generalizing acc with
 | nil=>simp[linesT]
 | cons c t ih =>have hc:c≠10:=fun e=>h (by rw[e];exact List.mem_cons_self);rw[List.cons_append];show(if c=10 then acc::linesT [] (t++10::r)else linesT (acc++[c]) (t++10::r))=_;rw[if_neg hc,ih _ (fun hm=>h (List.mem_cons_of_mem _ hm))];simp
theorem znI(acc u:List UInt8)(h:(10:UInt8) ∉ u):linesT acc u=if acc++u=[]then[]else[acc++u]:=by
 induction u generalizing acc with
 | nil=>simp[linesT]
 | cons c t ih =>have hc:c≠10:=fun e=>h (by rw[e];exact List.mem_cons_self);show(if c=10 then acc::linesT [] t else linesT (acc++[c]) t)=_;rw[if_neg hc,ih _ (fun hm=>h (List.mem_cons_of_mem _ hm))];simp
theorem cut_nl(l:List UInt8):(10:UInt8) ∉ l\/∃u r,l=u++10::r/\(10:UInt8) ∉ u:=by
 induction l with
 | nil=>exact .inl (fun h=>by cases h)
 | cons c t ih =>
   by_cases hc:c=10
   ·exact .inr ⟨[],t,by rw[hc];rfl,fun h=>by cases h⟩
   ·rcases ih with h | ⟨u,r,e,h⟩
    ·exact .inl fun hm=>by
      rcases List.mem_cons.1 hm with e | e
      ·exact hc e.symm
      ·exact h e
    ·refine .inr ⟨c::u,r,by rw[e];rfl,fun hm=>?_⟩;rcases List.mem_cons.1 hm with e' | e'
     ·exact hc e'.symm
     ·exact h e'
end Go.Proofs.YthlhgiihngcobaaGreatDoor
namespace Go.Proofs.YthlhgiihngcobaaGreatDoor
def zft:List Int->Int->List Int
 | [],n=>[n]
 | x::r,n=>if x=n then x::r else if n<x then n::x::r else x::zft r n
def inB(l:List Int)(n:Int):Bool:=l.contains n
theorem zaV{l:List Int}{n:Int}:inB l n=true↔n∈l:=by simp[inB]
theorem ziH{l:List Int}{n:Int}:inB l n=false↔n ∉ l:=by simp[inB]
end Go.Proofs.YthlhgiihngcobaaGreatDoor
namespace Go.Proofs.YthlhgiihngcobaaGreatDoor
abbrev Op3:=Int × Int × Int
def zaM(a:Int):Bool:=a == 3 || a == 4
def isOpB(o:Op3):Bool:=!(decide (o.1<1) || decide (6<o.1) || decide (o.2.1<1) || decide (4<o.2.1)) && (if zaM o.2.1 then o.2.2 == 0 else decide (1<=o.2.2) && decide (o.2.2<=6))
def zaz(l:List Op3)(t:Int):Bool:=l.any fun o=>o.1 == t && zaM o.2.1
def chkFrom:List Op3->List Op3->Nat × Int
 | _,[]=>(0,0)
 | pre,o::r=>if isOpB o=false then(pre.length,1)else if zaz pre o.1=true then(pre.length,6)else chkFrom (pre++[o]) r
def chk(l:List Op3):Nat × Int:=if 40<l.length then(0,4)else chkFrom [] l
def zgc:List Op3->Int->Int
 | [],_=>0
 | o::r,t=>if o.1=t/\3<=o.2.1 then o.2.1 else zgc r t
theorem zd1{a:Op3}(pre r:List Op3)(h:isOpB a=false):chkFrom pre (a::r)=(pre.length,1):=by simp[chkFrom,h]
theorem zec{a:Op3}{pre:List Op3}(r:List Op3)(h:isOpB a=true)(h2:zaz pre a.1=true):chkFrom pre (a::r)=(pre.length,6):=by simp[chkFrom,h,h2]
theorem zgb{a:Op3}{pre:List Op3}(r:List Op3)(h:isOpB a=true)(h2:zaz pre a.1=false):chkFrom pre (a::r)=chkFrom (pre++[a]) r:=by simp[chkFrom,h,h2]
theorem znT(l:List Op3):∀pre,(chkFrom pre l).2=0->∀o∈l,isOpB o=true:=by
 induction l with
 | nil=>intro pre _ o ho;cases ho
 | cons a r ih =>
   intro pre h o ho;simp only[chkFrom]at h;by_cases h1:isOpB a=false
   ·simp[h1]at h
   ·rw[if_neg h1]at h;by_cases h2:zaz pre a.1=true
    ·simp[h2]at h
    ·rw[if_neg h2]at h;rcases List.mem_cons.1 ho with rfl | hr
     ·simpa using h1
     ·exact ih _ h o hr
theorem zeq{o:Op3}(h:isOpB o=true):zaM o.2.1=decide (3<=o.2.1):=by
 simp[isOpB]at h;obtain⟨h,-⟩:=h;simp only[zaM];by_cases h3:o.2.1=3
 ·simp[h3]
 ·by_cases h4:o.2.1=4
  ·simp[h4]
  ·have:¬3<=o.2.1:=by omega
   simp[h3,h4,this]
theorem zfN(l:List Op3)(h:l.length<=40):chk l=chkFrom [] l:=by unfold chk;rw[if_neg (by omega)]
end Go.Proofs.YthlhgiihngcobaaGreatDoor
namespace Go.Proofs.YthlhgiihngcobaaGreatDoor
abbrev zab:=Int × Int
def zgf(o p:Op3):Bool:=o.1 != p.1 && (o.2.2 == p.2.2 && (o.2.1 == 2 || p.2.1 == 2))
def opAt(l:List Op3)(i:Nat):Op3:=l.getD i (0,0,0)
def zff(l:List Op3)(i k:Nat):List zab:=((List.range k).filter fun j=>decide (i<j) && zgf (opAt l i) (opAt l j)).map fun(j:Nat)=>((i:Int),(j:Int))
def zbM(l:List Op3)(i:Nat):List zab:=(List.range i).flatMap fun k=>zff l k l.length
def pairsL(l:List Op3):List zab:=zbM l l.length
theorem znw(l:List Op3)(i:Nat):zff l i (i+1)=[]:=by unfold zff;rw[List.map_eq_nil_iff,List.filter_eq_nil_iff];intro j hj;have:=List.mem_range.1 hj;simp;omega
theorem zsq{l:List Op3}{i k:Nat}(hik:i<k)(h:zgf (opAt l i) (opAt l k)=true):zff l i (k+1)=zff l i k++[((i:Int),(k:Int))]:=by unfold zff;rw[List.range_succ,List.filter_append,List.map_append];simp[hik,h]
theorem zqu{l:List Op3}{i k:Nat}(h:zgf (opAt l i) (opAt l k)=false):zff l i (k+1)=zff l i k:=by unfold zff;rw[List.range_succ,List.filter_append,List.map_append];simp[h]
theorem zmm(l:List Op3):zbM l 0=[]:=rfl
theorem zgP(l:List Op3)(i:Nat):zbM l (i+1)=zbM l i++zff l i l.length:=by unfold zbM;rw[List.range_succ,List.flatMap_append];simp
theorem zmC(l:List Op3)(i k:Nat):(zff l i k).length<=k:=by
 unfold zff;rw[List.length_map];have:=List.length_filter_le (fun j=>decide (i<j) && zgf (opAt l i) (opAt l j)) (List.range k)
 rwa [List.length_range]at this
theorem ziv(l:List Op3)(i:Nat):(zbM l i).length<=i*l.length:=by
 induction i with
 | zero=>simp[zmm]
 | succ i ih =>rw[zgP,List.length_append,Nat.succ_mul];have:=zmC l i l.length;omega
def zc7(l:List Op3)(i k:Nat):List zab:=zbM l i++zff l i k
theorem zss(l:List Op3)(i k:Nat)(hl:l.length<=40)(hi:i<=l.length)(hk:k<=l.length):(zc7 l i k).length<=1640:=by unfold zc7;rw[List.length_append];have h1:=zmC l i k;have h2:=ziv l i;have h3:i*l.length<=40*40:=Nat.mul_le_mul (by omega) hl;omega
theorem zol(l:List Op3)(i:Nat):zc7 l i (i+1)=zbM l i:=by unfold zc7;rw[znw];simp
theorem zqc(l:List Op3)(i k:Nat)(h:k=l.length):zc7 l i k=zbM l (i+1):=by unfold zc7;rw[h,zgP]
theorem zuw{l:List Op3}{i k:Nat}(hik:i<k)(h:zgf (opAt l i) (opAt l k)=true):zc7 l i (k+1)=zc7 l i k++[((i:Int),(k:Int))]:=by unfold zc7;rw[zsq hik h,List.append_assoc]
theorem zrG{l:List Op3}{i k:Nat}(h:zgf (opAt l i) (opAt l k)=false):zc7 l i (k+1)=zc7 l i k:=by unfold zc7;rw[zqu h]
theorem zex(l:List Op3)(hl:l.length<=40):(pairsL l).length<=1600:=by have h2:=ziv l l.length;have h3:l.length*l.length<=40*40:=Nat.mul_le_mul hl hl;unfold pairsL;omega
theorem zbv{l:List Op3}{e:zab}:e∈pairsL l↔∃i j:Nat,i<j/\j<l.length/\zgf (opAt l i) (opAt l j)=true/\e=((i:Int),(j:Int)):=by
 unfold pairsL zbM;rw[List.mem_flatMap];constructor
 ·rintro⟨i,hi,he⟩;unfold zff at he;obtain⟨j,hj,rfl⟩:=List.mem_map.1 he;obtain⟨hj1,hj2⟩:=List.mem_filter.1 hj;simp at hj1 hj2;exact⟨i,j,hj2.1,hj1,hj2.2,rfl⟩
 ·rintro⟨i,j,hij,hj,ho,rfl⟩;refine⟨i,List.mem_range.2 (by omega),?_⟩;unfold zff;exact List.mem_map.2 ⟨j,List.mem_filter.2 ⟨List.mem_range.2 hj,by simp[hij,ho]⟩,rfl⟩
theorem zal{l:List Op3}{i:Nat}(h:i<l.length):opAt l i∈l:=by unfold opAt;simp[List.getD,List.getElem?_eq_getElem h]
end Go.Proofs.YthlhgiihngcobaaGreatDoor
namespace Go.Proofs.YthlhgiihngcobaaGreatDoor
def zeh(t:Int):Bool:=decide (1<=t) && decide (t<=6)
def zdI(e:zab):Bool:=!zeh e.1 || !zeh e.2
def gchk(l:List zab):Int:=if 60<l.length then 4 else if l.any zdI=true then 1 else 0
theorem zpg{l:List zab}(h:gchk l=0):l.length<=60:=by
 unfold gchk at h;split at h
 ·cases h
 ·omega
theorem zfI{t:Int}:zeh t=true↔1<=t/\t<=6:=by simp[zeh]
theorem zla{l:List zab}(h:gchk l=0):∀e∈l,(1<=e.1/\e.1<=6)/\(1<=e.2/\e.2<=6):=by
 intro e he;unfold gchk at h;split at h
 ·cases h
 ·split at h
  ·cases h
  ·rename_i _ h2;have h3:l.any zdI=false:=by simpa using h2
   have h4:=List.any_eq_false.1 h3 e he;simp only[zdI,Bool.or_eq_true,Bool.not_eq_true',not_or]at h4;exact⟨zfI.1 (by simpa using h4.1),zfI.1 (by simpa using h4.2)⟩
abbrev zbg:=Nat->Bool
abbrev zbb:=Nat->Nat->Bool
def namedS(l:List zab):zbg:=fun k=>l.any fun e=>e.1 == (k:Int) || e.2 == (k:Int)
def stepsS(l:List zab):zbb:=fun i k=>l.any fun e=>e.1 == (i:Int) && e.2 == (k:Int)
theorem zhB(l:List zab)(e:zab)(k:Nat):namedS (l++[e]) k=(namedS l k || (e.1 == (k:Int) || e.2 == (k:Int))):=by simp[namedS]
theorem znn(l:List zab)(e:zab)(i k:Nat):stepsS (l++[e]) i k=(stepsS l i k || (e.1 == (i:Int) && e.2 == (k:Int))):=by simp[stepsS]
end Go.Proofs.YthlhgiihngcobaaGreatDoor
