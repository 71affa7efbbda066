/-
  PROVED HERE: plain.Told tells nil as 0 and an api.Errno as its number; what package run's road reads of the listed package variables (Globs; lanelaw3.RunBegins returns true, whatever the text and the number, over whatever run.Run answers, if the; plain facts, with no word of the program; strings.Cut at one line's end.
  Conditions: none but those that each theorem's own premises say.
-/
import Derived.Test.YthlhgiihngcobaaGreatDoorAs
import Derived.Lib.LaidTab
import Derived.Lib.ItoaNum
import Derived.WalkKit
import Derived.WalkSpells
import Derived.Handy
import Derived.PlainAid
import Derived.Deep.Cut
import Derived.Lib.Strings
import Derived.Test.YthlhgiihngcobaaGreatDoorMgad
set_option maxHeartbeats 32000000
set_option maxRecDepth 100000
namespace Go.Proofs.YthlhgiihngcobaaGreatDoor
open Go.RowKit
def EtAt(w:World):Prop:=w.cell? ⟨1,0,none⟩=some (.iface 239 (.agg #[.pointer (some ⟨6,39,none⟩)]))
theorem EtAt.lt{w:World}(h:EtAt w):1<w.heap.size:=by
 unfold EtAt at h;rcases Nat.lt_or_ge 1 w.heap.size with h0 | h0
 ·exact h0
 ·simp[World.cell?,Array.getElem?_eq_none h0]at h
theorem EtAt.alloc{w:World}(h:EtAt w)(o:Obj):EtAt (w.alloc o):=by unfold EtAt;rw[World.cell?_alloc_lt _ _ ⟨1,0,none⟩ h.lt];exact h
theorem EtAt.below{w w1:World}{B:Nat}(h:EtAt w)(hb:Below B w w1)(hB:1<B):EtAt w1:=by unfold EtAt;rw[hb.cell (p:=⟨1,0,none⟩) hB];exact h
end Go.Proofs.YthlhgiihngcobaaGreatDoor
namespace Go.Proofs.YthlhgiihngcobaaGreatDoor
open Go.RowKit
def zoj(w:World):Prop:=∃a:Addr,w.cell? ⟨0,0,none⟩=some (.iface 337 (.pointer (some a)))/\w.cell? a=some (.string ⟨#[98,97,100]⟩)
def zde(w:World):Prop:=Lib.TabIs Tryz.prog w "internal/strconv.uint64pow10" .u64 Lib.pow10Tab
structure zdK(w:World):Prop where
 et:EtAt w
 bad:zoj w
 pow:zde w
theorem zko:Tryz.prog.globalNamed "internal/strconv.uint64pow10" = some 3:=by kernel_rfl
theorem zde.lt{w:World}(h:zde w):3<w.heap.size:=by
 unfold zde Lib.TabIs World.var? at h;rw[zko]at h;simp only[Option.bind_some]at h;rcases Nat.lt_or_ge 3 w.heap.size with h0 | h0
 ·exact h0
 ·simp[Array.getElem?_eq_none h0]at h
theorem zbF{w w1:World}(h:zde w)(hb:Below w.heap.size w w1):zde w1:=by have hl:=h.lt;unfold zde Lib.TabIs World.var? at h ⊢;rw[zko]at h ⊢;simp only[Option.bind_some]at h ⊢;rw[hb.block _ hl];exact h
theorem zdK.below{w w1:World}(h:zdK w)(hb:Below w.heap.size w w1):zdK w1:=by refine⟨h.et.below hb h.et.lt,?_,zbF h.pow hb⟩;obtain⟨a,h1,h2⟩:=h.bad;exact⟨a,(hb.cell (p:=⟨0,0,none⟩) (World.block_lt_of_cell? w _ h1)).trans h1,(hb.cell (p:=a) (World.block_lt_of_cell? w a h2)).trans h2⟩
end Go.Proofs.YthlhgiihngcobaaGreatDoor
namespace Go.Proofs.YthlhgiihngcobaaGreatDoor
open Go.RowKit Go.PlainAid
theorem zdM{p:Prop}(h:p):Hid p:=h
def zmB:ByteArray:=⟨#[116,111,111,32,108,111,110,103,10]⟩
end Go.Proofs.YthlhgiihngcobaaGreatDoor
namespace Go.Proofs.YthlhgiihngcobaaGreatDoor
open Go.PlainAid
def linesT(acc:List UInt8):List UInt8->List (List UInt8)
 | []=>if acc=[]then[]else[acc]
 | c::r=>if c=10 then acc::linesT [] r else linesT (acc++[c]) r
section
variable {S:Type} (f:S->List UInt8->List UInt8 × S)
def zdL:S->List (List UInt8)->List UInt8
 | _,[]=>[]
 | h,l::r=>(f h l).1++10::zdL (f h l).2 r
def stL:S->List (List UInt8)->S
 | h,[]=>h
 | h,l::r=>stL (f h l).2 r
theorem zlq(h:S)(a b:List (List UInt8)):zdL f h (a++b)=zdL f h a++zdL f (stL f h a) b:=by
 induction a generalizing h with
 | nil=>rfl
 | cons l r ih=>show _++10::zdL f _ (r++b)=_;rw[ih];simp[zdL,stL]
def zog(h0:S)(s:ByteArray):ByteArray:=if 3000<s.size then zmB else⟨(zdL f h0 (linesT [] s.data.toList)).toArray⟩
end
theorem ziY(acc l:List UInt8):(linesT acc l).length<=l.length+1:=by
 induction l generalizing acc with
 | nil=>unfold linesT;split <;> simp
 | cons c r ih =>
   unfold linesT;split
   ·have:=ih [];simp;omega
   ·have:=ih (acc++[c]);simp;omega
theorem bytes_ext{s t:ByteArray}(h:s.data.toList=t.data.toList):s=t:=by cases s;cases t;simpa using h
theorem zjd(s:ByteArray):s.data.toList.length=s.size:=Array.length_toList
end Go.Proofs.YthlhgiihngcobaaGreatDoor
namespace Go.Proofs.YthlhgiihngcobaaGreatDoor
open Go.RowKit
theorem index_nl(s:ByteArray)(w:World):Calls Tryz.prog 39 #[.string s,.string ⟨#[10]⟩] w fun e w'=>e=.returned (.int .i64 (Lib.indexByte s.data.toList 10))/\w'=w:=by
 go_enter Tryz.func39,Tryz.ntmps39;go_wp2_with (go_at_call 102;refine(indexByte_lite _ _ _).mono ?_;rintro e w' ⟨rfl,rfl⟩)
 ·have h:([10] == s.toList)=true:=by assumption
  go_ret;refine⟨?_,rfl⟩;have e:s.data.toList=[10]:=by rw[<-Lib.toList_data];exact(beq_iff_eq.1 h).symm
  rw[e];simp[Lib.indexByte]
 ·go_ret;exact⟨rfl,rfl⟩
theorem lcutLite_hit(u v:List UInt8)(w:World)(h:(10:UInt8) ∉ u)(hs:(u++10::v).length<=9223372036854775807):Calls Tryz.prog 17 #[.string ⟨(u++10::v).toArray⟩,.string ⟨#[10]⟩] w fun e w'=>e=.returned (.tuple #[.string ⟨u.toArray⟩,.string ⟨v.toArray⟩,.bool true])/\w'=w.drew:=by
 have hix:=zc8 u v 10 h;have e1:(⟨(u++10::v).toArray⟩:ByteArray).extract 0 u.length=⟨u.toArray⟩:=zaY (by rw[Lib.extract_data];simp);have e2:(⟨(u++10::v).toArray⟩:ByteArray).extract (u.length+1) (⟨(u++10::v).toArray⟩:ByteArray).size=⟨v.toArray⟩:=zaY (by rw[Lib.extract_to_end];simp[List.drop_append]);have hz:(⟨(u++10::v).toArray⟩:ByteArray).size=u.length+v.length+1:=by show(u++10::v).toArray.size=_;simp;omega
 have hl:u.length+v.length+1<=9223372036854775807:=by simp at hs;omega
 obtain⟨s,hsd⟩:∃s:ByteArray,s=⟨(u++10::v).toArray⟩:=⟨_,rfl⟩;have hsl:s.data.toList=u++10::v:=by rw[hsd]
 rw[<-hsd]at e1 e2 hz ⊢;rw[hz]at e2;have HX:Hid (Lib.indexByte s.data.toList 10=u.length):=by show Lib.indexByte s.data.toList 10=u.length;rw[hsl];exact hix
 clear hix hsl hsd hs h;go_enter Tryz.func17,Tryz.ntmps17;go_wp2_with (go_at_call 39;refine(index_nl _ _).mono ?_;rintro e w' ⟨rfl,rfl⟩;rw[HX.out]);go_region;go_wp2;go_ret3;exact⟨rfl,rfl⟩
theorem lcutLite_miss(s:ByteArray)(w:World)(h:(10:UInt8) ∉ s.data.toList):Calls Tryz.prog 17 #[.string s,.string ⟨#[10]⟩] w fun e w'=>e=.returned (.tuple #[.string s,.string ⟨#[]⟩,.bool false])/\w'=w:=by have HX:Hid (Lib.indexByte s.data.toList 10=-1):=zcG _ _ h;clear h;go_enter Tryz.func17,Tryz.ntmps17;go_wp2_with (go_at_call 39;refine(index_nl _ _).mono ?_;rintro e w' ⟨rfl,rfl⟩;rw[HX.out]);go_ret3;exact⟨rfl,rfl⟩
theorem zlT(u v:List UInt8)(w:World)(h:(10:UInt8) ∉ u)(hs:(u++10::v).length<=9223372036854775807):Calls Tryz.prog 13 #[.string ⟨(u++10::v).toArray⟩,.string ⟨#[10]⟩] w fun e w'=>e=.returned (.tuple #[.string ⟨u.toArray⟩,.string ⟨v.toArray⟩,.bool true])/\w'=w.drew:=by go_enter Tryz.func13,Tryz.ntmps13;go_wp2_with (go_at_call 17;refine(lcutLite_hit u v _ h hs).mono ?_;rintro e w' ⟨rfl,rfl⟩);go_ret3;exact⟨rfl,rfl⟩
theorem zjP(s:ByteArray)(w:World)(h:(10:UInt8) ∉ s.data.toList):Calls Tryz.prog 13 #[.string s,.string ⟨#[10]⟩] w fun e w'=>e=.returned (.tuple #[.string s,.string ⟨#[]⟩,.bool false])/\w'=w:=by go_enter Tryz.func13,Tryz.ntmps13;go_wp2_with (go_at_call 17;refine(lcutLite_miss s _ h).mono ?_;rintro e w' ⟨rfl,rfl⟩);go_ret3;exact⟨rfl,rfl⟩
theorem ziC(acc u r:List UInt8)(h:(10:UInt8) ∉ u):linesT acc (u++10::r)=(acc++u)::linesT [] r:=by
 induction u generalizing acc with
 | nil=>simp[linesT]
 | cons c t ih =>have hc:c≠10:=fun e=>h (by rw[e];exact List.mem_cons_self);rw[List.cons_append];show(if c=10 then acc::linesT [] (t++10::r)else linesT (acc++[c]) (t++10::r))=_;rw[if_neg hc,ih _ (fun hm=>h (List.mem_cons_of_mem _ hm))];simp
theorem zhh(acc u:List UInt8)(h:(10:UInt8) ∉ u):linesT acc u=if acc++u=[]then[]else[acc++u]:=by
 induction u generalizing acc with
 | nil=>simp[linesT]
 | cons c t ih =>have hc:c≠10:=fun e=>h (by rw[e];exact List.mem_cons_self);show(if c=10 then acc::linesT [] t else linesT (acc++[c]) t)=_;rw[if_neg hc,ih _ (fun hm=>h (List.mem_cons_of_mem _ hm))];simp
theorem cut_nl(l:List UInt8):(10:UInt8) ∉ l\/∃u r,l=u++10::r/\(10:UInt8) ∉ u:=by
 induction l with
 | nil=>exact .inl (fun h=>by cases h)
 | cons c t ih =>
   by_cases hc:c=10
   ·exact .inr ⟨[],t,by rw[hc];rfl,fun h=>by cases h⟩
   ·rcases ih with h | ⟨u,r,e,h⟩
    ·exact .inl fun hm=>by
      rcases List.mem_cons.1 hm with e | e
      ·exact hc e.symm
      ·exact h e
    ·refine .inr ⟨c::u,r,by rw[e];rfl,fun hm=>?_⟩;rcases List.mem_cons.1 hm with e' | e'
     ·exact hc e'.symm
     ·exact h e'
end Go.Proofs.YthlhgiihngcobaaGreatDoor
