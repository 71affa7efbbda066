/-
  PROVED HERE: history.readOps and history.Parse answer as the plain readers say, whatever the text; history.Parse tells ErrSyntax of a text that is none, Check's error of one whose ops are wrong, and else its; package run's joined, numbers, those put words together, a blank between, or a dash; package run's lines hands each line of a text to the loop's body, in order.
  Conditions: none but those that each theorem's own premises say.
-/
import Derived.Test.YthlhgiihngcobaaGreatDoorMgar
import Derived.Test.YthlhgiihngcobaaGreatDoorMgah
import Derived.Deep.LoopGhost
import Derived.Test.YthlhgiihngcobaaGreatDoorMgaf
import Derived.Deep.Strs
import Derived.Maps.AppendAt
import Derived.RangeFuncBox
import Derived.RangeFuncNested
import Derived.RangeFuncBound
import Derived.RangeFuncCalls
import Derived.RangeFuncLeaves
import Derived.Shelf.Abstract
import Derived.Shelf.RegionOpen
import Derived.WalkKit
import Derived.OwnWalkIn
import Derived.TacticsInMore
import Derived.LoopNIn
import Derived.LoopIn
set_option maxHeartbeats 32000000
set_option maxRecDepth 100000
namespace Go.Proofs.YthlhgiihngcobaaGreatDoor
open Go.RowKit Go.PlainAid
theorem zwZ:∀(n:Nat) (l:List UInt8),l.length+1<=n->rdW n l=rdW (l.length+1) l:=by
 intro n
 induction n using Nat.strongRecOn with
 | _ n ih =>
   intro l hn;cases n with
   | zero=>omega
   | succ n =>
     unfold rdW;cases hc:(ze4 l).2 with
     | none=>rfl
     | some r =>
       have hl:=(zf0 hc).1;have hr:r.length+1<=l.length:=by have:=congrArg List.length hl;simp at this;omega
       simp only;cases zed (ze4 l).1 with
       | none=>rfl
       | some o =>
         simp only;rw[ih n (by omega) r (by omega)];rcases Nat.lt_or_ge l.length (n+1)with hlt | hge
         ·rw[ih l.length (by omega) r (by omega)]
         ·have:l.length=n:=by omega
          rw[this,ih n (by omega) r (by omega)]
theorem zuV{l:List UInt8}(hc:(ze4 l).2=none):rdW (l.length+1) l=(zed l).map fun o=>[o]:=by
 conv=>lhs;unfold rdW
 rw[hc,(zmL hc).1]
theorem zpf{l r:List UInt8}(hc:(ze4 l).2=some r):rdW (l.length+1) l=match zed (ze4 l).1 with | none=>none | some o=>(rdW (r.length+1) r).map fun x=>o::x:=by
 have hl:=(zf0 hc).1;have hr:r.length+1<=l.length:=by have:=congrArg List.length hl;simp at this;omega
 conv=>lhs;unfold rdW
 rw[hc];simp only;cases zed (ze4 l).1 with
 | none=>rfl
 | some o=>simp only;rw[zwZ l.length r hr]
theorem zdF(ds:List Op3)(o:Op3):(ds++[o]).take 41=if ds.length<=40 then ds.take 41++[o]else ds.take 41:=by
 by_cases h:ds.length<=40
 ·rw[if_pos h,List.take_of_length_le (by simp;omega),List.take_of_length_le (by omega)]
 ·rw[if_neg h,List.take_append_of_le_length (by omega)]
theorem zdR{w:World}{base e size n:Nat}{v:Value}{xs:List Value}(h:w.ownsRow base e size v n xs):∃ad cap,v=.slice ad n cap:=by
 rcases h.2 with⟨hv,h0⟩ | ⟨g,cap,cur,hv,_⟩
 ·exact⟨none,0,by rw[hv,h0]⟩
 ·exact⟨_,_,hv⟩
def zj7(l rest:List UInt8)(ds:List Op3):Prop:=(rdW (rest.length+1) rest).map (ds ++ ·)=zbT l
theorem zj7.none_end{l rest:List UInt8}{ds:List Op3}(h:zj7 l rest ds)(hc:(ze4 rest).2=none)(ho:zed rest=none):zbT l=none:=by unfold zj7 at h;rw[zuV hc,ho]at h;exact h.symm
theorem zj7.some_end{l rest:List UInt8}{ds:List Op3}{o:Op3}(h:zj7 l rest ds)(hc:(ze4 rest).2=none)(ho:zed rest=some o):zbT l=some (ds++[o]):=by unfold zj7 at h;rw[zuV hc,ho]at h;exact h.symm
theorem zj7.none_more{l rest r:List UInt8}{ds:List Op3}(h:zj7 l rest ds)(hc:(ze4 rest).2=some r)(ho:zed (ze4 rest).1=none):zbT l=none:=by unfold zj7 at h;rw[zpf hc,ho]at h;exact h.symm
theorem zj7.some_more{l rest r:List UInt8}{ds:List Op3}{o:Op3}(h:zj7 l rest ds)(hc:(ze4 rest).2=some r)(ho:zed (ze4 rest).1=some o):zj7 l r (ds++[o]):=by
 unfold zj7 at h ⊢;rw[zpf hc,ho]at h;rw[<-h];simp only;cases rdW (r.length+1) r with
 | none=>rfl
 | some x=>simp
def zAV(B:Nat)(e:Ending)(w':World)(r:Option (List Op3)):Prop :=
 match r with
 | some ds=>∃v,e=.returned (.tuple #[v,.bool true])/\zai w' v (ds.take 41)/\w'.ownsRow B 103 3 v (ds.take 41).length (flat (ds.take 41))
 | none=>e=.returned (.tuple #[.slice none 0 0,.bool false])
theorem readOps_any(l:List UInt8)(w:World)(hs:l.length<=9223372036854775807):Calls Tryz.prog 107 #[.string ⟨l.toArray⟩] w fun e w'=>zAV w.heap.size e w' (zbT l)/\Below w.heap.size w w':=by
 cases hl:l with
 | nil =>have hem:(⟨([]:List UInt8).toArray⟩:ByteArray).toList=[]:=Lib.toList_data _;go_enter Tryz.func107,Tryz.ntmps107;go_wp2;refine wp_loop_rounds 1 ?_;rw[rounds_succ];go_wp2;go_ret2;exact⟨⟨_,rfl,zef _,World.ownsRow_nil _ _ _ _⟩,Below.refl _ _⟩
 | cons a0 r0 =>
   have hM:zj7 (a0::r0) (a0::r0) []:=by unfold zj7 zbT;rw[if_neg (by simp)];simp
   rw[hl]at hs;clear hl l;obtain⟨l,hl⟩:∃l,l=a0::r0:=⟨_,rfl⟩;rw[<-hl]at hM hs ⊢;have hem:l.isEmpty=false:=by rw[hl];rfl
   have HM:Hid (zj7 l l []):=hM;clear hM hl a0 r0;obtain⟨i0,hi,hz0,hs0,hy0⟩:=info_parts zmo;have HI:Hid (Tryz.prog.info? 103=some i0/\i0.zero=some (.agg #[.int .i64 0,.int .i64 0,.int .i64 0])/\i0.size=3/\i0.bytes=24):=⟨hi,hz0,hs0,hy0⟩;clear hi hz0 hs0 hy0;go_enter Tryz.func107,Tryz.ntmps107;go_wp2
   go_loopg [0,5,4] (l.length+2) (fun k v0 v5 v4 wr=>∃(rest:List UInt8) (ds:List Op3) (m:Bool),v0=.string ⟨rest.toArray⟩/\v5=.bool m/\rest.length<=l.length/\wr.ownsRow w.heap.size 103 3 v4 (ds.take 41).length (flat (ds.take 41))/\(m=true->rest.length+1<k/\zj7 l rest ds)/\(m=false->zbT l=some ds)/\Below w.heap.size w wr)
   case atStart=>exact⟨l,[],true,rfl,rfl,Nat.le_refl _,World.ownsRow_nil _ _ _ _,fun _=>⟨by omega,HM.out⟩,fun h=>(by cases h),Below.refl _ _⟩
   case round =>
    obtain⟨rest,ds,m,rfl,rfl,hrl,hown,hmt,hmf,hbel⟩:=hrel;obtain⟨n,hn⟩:∃n,(ds.take 41).length=n:=⟨_,rfl⟩;rw[hn]at hown;obtain⟨ad,cap,rfl⟩:=zdR hown;have HN:Hid ((ds.take 41).length=n):=hn;have htl:n<=41:=by have:(ds.take 41).length<=41:=List.length_take_le _ _;omega
    clear hn;have hsz:=hbel.size;cases m with
    | false =>have HF:Hid (zbT l=some ds):=hmf rfl;clear hmt hmf;go_wp2;go_ret2;refine⟨?_,hbel⟩;rw[HF.out];exact⟨_,rfl,zdT hown HN.out,by rw[HN.out];exact hown⟩
    | true =>
      obtain⟨hk,hMr⟩:=hmt rfl;have HMR:Hid (zj7 l rest ds):=hMr;have HOWN:Hid (wr.ownsRow w.heap.size 103 3 (.slice ad n cap) n (flat (ds.take 41))):=hown;clear hmf hmt hMr hown;cases hcw:(ze4 rest).2 with
      | none =>
        have HC:Hid ((ze4 rest).2=none):=hcw;have HSZ:Hid ((⟨rest.toArray⟩:ByteArray).size<=9223372036854775807):=by show rest.toArray.size<=9223372036854775807;rw[List.size_toArray];omega
        have HNB:Hid ((32:UInt8) ∉ (⟨rest.toArray⟩:ByteArray).data.toList):=(zmL hcw).2;clear hcw;cases hro:zed rest with
        | none =>have HRO:Hid (zed (⟨rest.toArray⟩:ByteArray).data.toList=none):=hro;have HP:Hid (zbT l=none):=HMR.out.none_end HC.out hro;clear hro;go_wp2_with (first | (go_at_call 13;refine(zj3 ⟨rest.toArray⟩ _ HNB.out).mono ?_;rintro e w1 ⟨rfl,hw1⟩;subst hw1) | (go_at_call 175;refine(zcv ⟨rest.toArray⟩ _ HSZ.out).mono ?_;rintro e w2 ⟨hret,hb2⟩;rw[HRO.out]at hret;obtain⟨x,y,z,rfl⟩:=hret;have HOW2:Hid (w2.ownsRow w.heap.size 103 3 (.slice ad n cap) n (flat (ds.take 41))):=zaG (HOWN.out) hb2 (Nat.le_refl _);have hs2:=hb2.size;try simp at hs2));go_ret2;refine⟨?_,(hbel.trans (hb2.mono hsz)).alloc (by omega) _⟩;rw[HP.out];exact rfl
        | some o =>
          have HRO:Hid (zed (⟨rest.toArray⟩:ByteArray).data.toList=some o):=hro;have HP:Hid (zbT l=some (ds++[o])):=HMR.out.some_end HC.out hro;clear hro;by_cases h40:ds.length<=40
          ·have HTK:Hid ((ds++[o]).take 41=ds.take 41++[o]):=by show(ds++[o]).take 41=ds.take 41++[o];rw[zdF,if_pos h40]
           have h40':n<=40:=by rw[<-HN.out,List.length_take];omega
           go_wp2_with (first | (go_at_call 13;refine(zj3 ⟨rest.toArray⟩ _ HNB.out).mono ?_;rintro e w1 ⟨rfl,hw1⟩;subst hw1) | (go_at_call 175;refine(zcv ⟨rest.toArray⟩ _ HSZ.out).mono ?_;rintro e w2 ⟨hret,hb2⟩;rw[HRO.out]at hret;subst hret;have HOW2:Hid (w2.ownsRow w.heap.size 103 3 (.slice ad n cap) n (flat (ds.take 41))):=zaG (HOWN.out) hb2 (Nat.le_refl _);have hs2:=hb2.size;try simp at hs2) | (at_builtin;refine wpList_append_own _ rfl (.tmp 28) (.tmp 30) 28 rfl w.heap.size 103 i0 (.agg #[.int .i64 0,.int .i64 0,.int .i64 0]) 3 24 Tryz.underlying28 HI.out.1 HI.out.2.1 HI.out.2.2.1 HI.out.2.2.2 rfl (by decide) (.slice ad n cap) n (flat (ds.take 41)) rfl ((HOW2.out.alloc _).alloc _) ⟨w2.heap.size+1,0,none⟩ 1 1 (flat [(o.1,o.2.1,o.2.2)]) rfl rfl (by have:=zoP (w2.alloc (.cells #[.int .i64 o.1,.int .i64 o.2.1,.int .i64 o.2.2] 103)) o.1 o.2.1 o.2.2;simpa using this) (zba _) (by unfold maxLen;omega) (by omega) (by simp;omega) ?_;intro v3 w3 hown3 hgr3 hnil3));have hB3:=(((hbel.trans (hb2.mono hsz)).alloc (by omega) _).alloc (by simp;omega) _).grown hgr3 (by simp;omega) (fun m hm=>(HOW2.out.lt m hm).1)
           go_roundg 0
           case measure=>omega
           case rel=>exact⟨[],ds++[o],false,rfl,rfl,by simp,by rw[HTK.out,List.length_append,HN.out,zaP];exact hown3,fun h=>(by cases h),fun _=>HP.out,hB3⟩
          ·have HTK:Hid ((ds++[o]).take 41=ds.take 41):=by show(ds++[o]).take 41=ds.take 41;rw[zdF,if_neg h40]
           have h40':40<n:=by rw[<-HN.out,List.length_take];omega
           go_wp2_with (first | (go_at_call 13;refine(zj3 ⟨rest.toArray⟩ _ HNB.out).mono ?_;rintro e w1 ⟨rfl,hw1⟩;subst hw1) | (go_at_call 175;refine(zcv ⟨rest.toArray⟩ _ HSZ.out).mono ?_;rintro e w2 ⟨hret,hb2⟩;rw[HRO.out]at hret;subst hret;have HOW2:Hid (w2.ownsRow w.heap.size 103 3 (.slice ad n cap) n (flat (ds.take 41))):=zaG (HOWN.out) hb2 (Nat.le_refl _);have hs2:=hb2.size;try simp at hs2));have hB3:=(hbel.trans (hb2.mono hsz)).alloc (by omega) (.cells #[.int .i64 o.1,.int .i64 o.2.1,.int .i64 o.2.2] 103)
           go_roundg 0
           case measure=>omega
           case rel=>exact⟨[],ds++[o],false,rfl,rfl,by simp,by rw[HTK.out,HN.out];exact HOW2.out.alloc _,fun h=>(by cases h),fun _=>HP.out,hB3⟩
      | some r =>
        have HC:Hid ((ze4 rest).2=some r):=hcw;have hre:=(zf0 hcw).1;have hnb:=(zf0 hcw).2;have hrr:rest.length=(ze4 rest).1.length+(r.length+1):=by have:=congrArg List.length hre;simpa using this
        obtain⟨u,hu⟩:∃u,(ze4 rest).1=u:=⟨_,rfl⟩;have HU:Hid ((ze4 rest).1=u):=hu;rw[hu]at hre hnb hrr;have HNB:Hid ((u++32::r).length<=9223372036854775807/\(32:UInt8) ∉ u):=⟨by rw[<-hre];omega,hnb⟩;have HSZ:Hid ((⟨u.toArray⟩:ByteArray).size<=9223372036854775807):=by show u.toArray.size<=9223372036854775807;rw[List.size_toArray];omega
        have HRS:Hid (rest=u++32::r):=hre;have hrl2:r.length<=l.length:=by omega
        have hk2:r.length+2<gk:=by omega
        clear hcw hnb hu hrr hk hrl;cases hro:zed u with
        | none =>have HRO:Hid (zed (⟨u.toArray⟩:ByteArray).data.toList=none):=hro;have HP:Hid (zbT l=none):=HMR.out.none_more HC.out (by rw[HU.out];exact hro);clear hro HMR HC HU HRS;subst hre;go_wp2_with (first | (go_at_call 13;refine(zm0 u r _ HNB.out.2 HNB.out.1).mono ?_;rintro e w1 ⟨rfl,hw1⟩;subst hw1) | (go_at_call 175;refine(zcv ⟨u.toArray⟩ _ HSZ.out).mono ?_;rintro e w2 ⟨hret,hb2⟩;rw[HRO.out]at hret;obtain⟨x,y,z,rfl⟩:=hret;have HOW2:Hid (w2.ownsRow w.heap.size 103 3 (.slice ad n cap) n (flat (ds.take 41))):=zaG (HOWN.out.drew) hb2 (Nat.le_refl _);have hs2:=hb2.size;try simp at hs2));go_ret2;refine⟨?_,(hbel.drew.trans (hb2.mono (by simpa using hsz))).alloc (by omega) _⟩;rw[HP.out];exact rfl
        | some o =>
          have HRO:Hid (zed (⟨u.toArray⟩:ByteArray).data.toList=some o):=hro;have HP:Hid (zj7 l r (ds++[o])):=HMR.out.some_more HC.out (by rw[HU.out];exact hro);clear hro HMR HC HU HRS;subst hre;by_cases h40:ds.length<=40
          ·have HTK:Hid ((ds++[o]).take 41=ds.take 41++[o]):=by show(ds++[o]).take 41=ds.take 41++[o];rw[zdF,if_pos h40]
           have h40':n<=40:=by rw[<-HN.out,List.length_take];omega
           go_wp2_with (first | (go_at_call 13;refine(zm0 u r _ HNB.out.2 HNB.out.1).mono ?_;rintro e w1 ⟨rfl,hw1⟩;subst hw1) | (go_at_call 175;refine(zcv ⟨u.toArray⟩ _ HSZ.out).mono ?_;rintro e w2 ⟨hret,hb2⟩;rw[HRO.out]at hret;subst hret;have HOW2:Hid (w2.ownsRow w.heap.size 103 3 (.slice ad n cap) n (flat (ds.take 41))):=zaG (HOWN.out.drew) hb2 (Nat.le_refl _);have hs2:=hb2.size;try simp at hs2) | (at_builtin;refine wpList_append_own _ rfl (.tmp 28) (.tmp 30) 28 rfl w.heap.size 103 i0 (.agg #[.int .i64 0,.int .i64 0,.int .i64 0]) 3 24 Tryz.underlying28 HI.out.1 HI.out.2.1 HI.out.2.2.1 HI.out.2.2.2 rfl (by decide) (.slice ad n cap) n (flat (ds.take 41)) rfl ((HOW2.out.alloc _).alloc _) ⟨w2.heap.size+1,0,none⟩ 1 1 (flat [(o.1,o.2.1,o.2.2)]) rfl rfl (by have:=zoP (w2.alloc (.cells #[.int .i64 o.1,.int .i64 o.2.1,.int .i64 o.2.2] 103)) o.1 o.2.1 o.2.2;simpa using this) (zba _) (by unfold maxLen;omega) (by omega) (by simp;omega) ?_;intro v3 w3 hown3 hgr3 hnil3));have hB3:=(((hbel.drew.trans (hb2.mono (by simpa using hsz))).alloc (by omega) _).alloc (by simp;omega) _).grown hgr3 (by simp;omega) (fun m hm=>(HOW2.out.lt m hm).1)
           go_roundg (r.length+2)
           case measure=>omega
           case rel=>exact⟨r,ds++[o],true,rfl,rfl,by omega,by rw[HTK.out,List.length_append,HN.out,zaP];exact hown3,fun _=>⟨by omega,HP.out⟩,fun h=>(by cases h),hB3⟩
          ·have HTK:Hid ((ds++[o]).take 41=ds.take 41):=by show(ds++[o]).take 41=ds.take 41;rw[zdF,if_neg h40]
           have h40':40<n:=by rw[<-HN.out,List.length_take];omega
           go_wp2_with (first | (go_at_call 13;refine(zm0 u r _ HNB.out.2 HNB.out.1).mono ?_;rintro e w1 ⟨rfl,hw1⟩;subst hw1) | (go_at_call 175;refine(zcv ⟨u.toArray⟩ _ HSZ.out).mono ?_;rintro e w2 ⟨hret,hb2⟩;rw[HRO.out]at hret;subst hret;have HOW2:Hid (w2.ownsRow w.heap.size 103 3 (.slice ad n cap) n (flat (ds.take 41))):=zaG (HOWN.out.drew) hb2 (Nat.le_refl _);have hs2:=hb2.size;try simp at hs2));have hB3:=(hbel.drew.trans (hb2.mono (by simpa using hsz))).alloc (by omega) (.cells #[.int .i64 o.1,.int .i64 o.2.1,.int .i64 o.2.2] 103)
           go_roundg (r.length+2)
           case measure=>omega
           case rel=>exact⟨r,ds++[o],true,rfl,rfl,by omega,by rw[HTK.out,HN.out];exact HOW2.out.alloc _,fun _=>⟨by omega,HP.out⟩,fun h=>(by cases h),hB3⟩
end Go.Proofs.YthlhgiihngcobaaGreatDoor
namespace Go.Proofs.YthlhgiihngcobaaGreatDoor
open Go.RowKit Go.PlainAid
theorem ziM(l:List UInt8)(w:World)(hs:l.length<=9223372036854775807)(hp:zbT l=none):Calls Tryz.prog 41 #[.string ⟨l.toArray⟩] w fun e w'=>e=.returned (.tuple #[.slice none 0 0,.iface 80 (.int .i64 2)])/\Below w.heap.size w w':=by have HP:Hid (zbT l=none):=hp;clear hp;go_enter Tryz.func41,Tryz.ntmps41;go_wp2_with (go_at_call 107;refine(readOps_any l _ hs).mono ?_;rintro e w1 ⟨hret,hb1⟩;rw[HP.out]at hret;obtain rfl:e=.returned (.tuple #[.slice none 0 0,.bool false]):=hret);go_ret2;exact⟨rfl,hb1⟩
theorem zsu(l:List UInt8)(ds:List Op3)(w:World)(hs:l.length<=9223372036854775807)(hp:zbT l=some ds)(hc:(chk (ds.take 41)).2≠0):Calls Tryz.prog 41 #[.string ⟨l.toArray⟩] w fun e w'=>e=.returned (.tuple #[.slice none 0 0,.iface 80 (.int .i64 (chk (ds.take 41)).2)])/\Below w.heap.size w w':=by have HP:Hid (zbT l=some ds):=hp;have HC:Hid ((chk (ds.take 41)).2≠0):=hc;clear hp hc;go_enter Tryz.func41,Tryz.ntmps41;go_wp2_with (first | (go_at_call 107;refine(readOps_any l _ hs).mono ?_;rintro e w1 ⟨hret,hb1⟩;rw[HP.out]at hret;obtain⟨v,rfl,hI,-⟩:∃v,e=.returned (.tuple #[v,.bool true])/\zai w1 v (ds.take 41)/\w1.ownsRow w.heap.size 103 3 v (ds.take 41).length (flat (ds.take 41)):=hret) | (go_at_call 81;refine(check_bad (ds.take 41) v _ hI HC.out).mono ?_;rintro e w2 ⟨rfl,hb2⟩));go_ret2;exact⟨rfl,hb1.trans (hb2.mono hb1.size)⟩
theorem zxG{ds:List Op3}(hc:(chk (ds.take 41)).2=0):ds.take 41=ds:=by have:=zaQ hc;rw[List.length_take]at this;exact List.take_of_length_le (by omega)
theorem zuf(l:List UInt8)(ds:List Op3)(w:World)(hs:l.length<=9223372036854775807)(hp:zbT l=some ds)(hc:(chk (ds.take 41)).2=0):Calls Tryz.prog 41 #[.string ⟨l.toArray⟩] w fun e w'=>∃v,e=.returned (.tuple #[v,.nilIface])/\(zai w' v ds/\w'.ownsRow w.heap.size 103 3 v ds.length (flat ds))/\Below w.heap.size w w':=by have ht:=zxG hc;have HP:Hid (zbT l=some ds):=hp;rw[ht]at hc;have HC:Hid ((chk ds).2=0):=hc;have HT:Hid (ds.take 41=ds):=ht;clear hp hc ht;go_enter Tryz.func41,Tryz.ntmps41;go_wp2_with (first | (go_at_call 107;refine(readOps_any l _ hs).mono ?_;rintro e w1 ⟨hret,hb1⟩;rw[HP.out]at hret;obtain⟨v,rfl,hI,hO⟩:∃v,e=.returned (.tuple #[v,.bool true])/\zai w1 v (ds.take 41)/\w1.ownsRow w.heap.size 103 3 v (ds.take 41).length (flat (ds.take 41)):=hret;rw[HT.out]at hI hO) | (go_at_call 81;refine(check_ok ds v _ hI HC.out).mono ?_;rintro e w2 ⟨rfl,hb2⟩));go_ret2;exact⟨v,rfl,⟨hI.below hb2 (Nat.le_refl _),zaG hO hb2 (Nat.le_refl _)⟩,hb1.trans (hb2.mono hb1.size)⟩
end Go.Proofs.YthlhgiihngcobaaGreatDoor
namespace Go.Proofs.YthlhgiihngcobaaGreatDoor
open Go.RowKit
abbrev za2(x:List UInt8):Value:=.string ⟨x.toArray⟩
def zl1:Prop:=∀(bk o c:Nat) (xs:List (List UInt8)) (w:World),(∀(j:Nat) x,xs[j]? = some x->w.cell? ⟨bk,o+j,none⟩=some (za2 x))->bk<w.heap.size->xs.length<=1000->xs.length<=c->(Lib.join xs [32]).length<=1000000 ->
 Calls Tryz.prog 109 #[.slice (some ⟨bk,o,none⟩) xs.length c,.string ⟨#[32]⟩] w fun e w'=>e=.returned (za2 (Lib.join xs [32]))/\Below w.heap.size w w'
def zAx:Prop:=∀(n:Int) (w:World),0<=n->n<10000000->zen w->Calls Tryz.prog 42 #[.int .i64 n] w fun e w'=>e=.returned (za2 (Lib.itoa n))/\Below w.heap.size w w'
theorem zau{p:Prop}(h:p):Hid p:=h
theorem zuv:(Tryz.prog.info? 9).map (fun i=>(i.zero,i.size,i.bytes))=some (some (.string ⟨#[]⟩),1,16):=by kernel_rfl
theorem zlf(hJ:zl1)(B n:Nat)(xs:List (List UInt8))(v:Value)(w:World)(hn:xs.length=n)(h:w.ownsRow B 9 1 v n (xs.map za2))(hl:n<=1000)(hj:(Lib.join xs [32]).length<=1000000):Calls Tryz.prog 43 #[v] w fun e w'=>e=.returned (za2 (zg0 xs))/\Below w.heap.size w w':=by
 by_cases hx:xs=[]
 ·have hn0:n=0:=by rw[<-hn,hx];rfl
  subst hn0;have hJD:zg0 xs=[45]:=if_pos hx;obtain⟨ad,cap,rfl⟩:=zdR h;rw[hJD];clear h hJ hj hJD hn hx;go_enter Tryz.func43,Tryz.ntmps43;go_wp2_with fail;go_ret;exact⟨rfl,Below.refl _ _⟩
 ·have hJD:zg0 xs=Lib.join xs [32]:=if_neg hx;have hpos:0<n:=by rw[<-hn];exact List.length_pos_iff.2 hx
  obtain⟨g,cap,cur,rfl,hg,hgc,hnc,-⟩:∃g cap cur,v=.slice (some ⟨g,0,none⟩) n cap/\B<=g/\w.heap[g]? = some (.cells cur 9 (0,0))/\n<=cap/\True:=by
   rcases h.2 with⟨_,h0⟩ | ⟨g,cap,cur,hv,hb,hg,hc,_⟩
   ·omega
   ·exact⟨g,cap,cur,hv,hb,hg,hc,trivial⟩
  have HC:=zau (hJ g 0 cap xs w (fun j x hx=>by have:=h.cells (g:=g) rfl j (za2 x) (by rw[List.getElem?_map,hx];rfl);rw[Addr.add_lit]at this;exact this) (zbz hgc) (by omega) (by omega) hj);rw[hn]at HC;rw[hJD];have hn0:((n:Int) == 0)=false:=by simp;omega
  clear h hgc hJ hj hJD hn hx;go_enter Tryz.func43,Tryz.ntmps43;go_wp2_with fail;refine HC.out.mono ?_;rintro e w1 ⟨rfl,hb1⟩;go_wp2_with fail;go_ret;exact⟨rfl,hb1⟩
theorem zgp(hJ:zl1)(hI:zAx)(l:List Int)(v x:Value)(w:World)(h:zaf w v l)(hl:l.length<=1000)(hx:∀d∈l,0<=d/\d<10000000)(hp:zen w):Calls Tryz.prog 21 #[v,x] w fun e w'=>e=.returned (.tuple #[za2 (zg0 (l.map Lib.itoa)),x])/\Below w.heap.size w w':=by
 obtain⟨ad,b,off,cap,rfl,ha,-,hbB,hc⟩:=h;obtain⟨N,hN⟩:∃n,l.length=n:=⟨_,rfl⟩
 have HE:Hid (∀W,Below w.heap.size w W->∀k,k<N->ad=some ⟨b,off,none⟩/\W.cell? ⟨b,off+k,none⟩=some (.int .i64 (l.getD k 0))):=fun W hW k hk=>by
  have hb:b<w.heap.size:=by
   rcases hbB with h | h
   ·exact h
   ·rw[h]at hN;simp at hN;omega
  exact⟨ha (by omega),(hW.cell (p:=⟨b,off+k,none⟩) hb).trans (hc k (by omega))⟩
 have HIC:Hid (∀W,Below w.heap.size w W->∀k,k<N->Calls Tryz.prog 42 #[.int .i64 (l.getD k 0)] W fun e w'=>e=.returned (za2 (Lib.itoa (l.getD k 0)))/\Below W.heap.size W w'):=fun W hW k hk=>by have hd:=hx (l.getD k 0) (by rw[List.getD_eq_getElem?_getD,List.getElem?_eq_getElem (by omega)];exact List.getElem_mem _);exact hI _ W hd.1 hd.2 (zbY hp hW)
 have HJ:=zau (fun(W:World) (u:Value) (hu:W.ownsRow w.heap.size 9 1 u N ((l.map Lib.itoa).map za2))=>zlf hJ w.heap.size N (l.map Lib.itoa) u W (by rw[List.length_map];exact hN) hu (by omega) (by
  have h1:=zpr 7 (l.map Lib.itoa) fun t ht=>by obtain⟨d,hd,rfl⟩:=List.mem_map.1 ht;exact zxX (hx d hd)
  rw[List.length_map]at h1;omega))
 have HTK:Hid (∀k,k<N->(l.take (k+1)).map (fun d=>za2 (Lib.itoa d))=(l.take k).map (fun d=>za2 (Lib.itoa d))++[za2 (Lib.itoa (l.getD k 0))]):=fun k hk=>by rw[List.take_succ_eq_append_getElem (by omega),List.map_append];simp[List.getD,List.getElem?_eq_getElem (show k<l.length by omega)]
 have HALL:Hid ((l.take N).map (fun d=>za2 (Lib.itoa d))=(l.map Lib.itoa).map za2):=by show(l.take N).map _=_;rw[List.take_of_length_le (by omega),List.map_map];rfl
 obtain⟨i0,hi,hz0,hz1,hz2⟩:=info_parts zuv;have HI:Hid (Tryz.prog.info? 9=some i0/\i0.zero=some (.string ⟨#[]⟩)/\i0.size=1/\i0.bytes=16):=⟨hi,hz0,hz1,hz2⟩;rw[hN]at hl ⊢;clear hi hz0 hz1 hz2 ha hbB hc hJ hI hx hp hN;go_enter Tryz.func21,Tryz.ntmps21;go_wp2_with fail
 go_loopw [6,11] (fun v6 v11 wr=>∃k:Nat,k<=N/\v11=.int .i64 k/\wr.ownsRow w.heap.size 9 1 v6 k ((l.take k).map (fun d=>za2 (Lib.itoa d)))/\Below w.heap.size w wr) (fun _ v11 _=>N-(intOf v11).toNat)
 case atStart=>exact⟨0,Nat.zero_le _,rfl,World.ownsRow_nil _ _ _ _,Below.refl _ _⟩
 case round =>
  obtain⟨k,hk,rfl,hown,hbel⟩:=hrel;obtain⟨ad6,cap6,rfl⟩:=zdR hown;by_cases hlt:k<N
  ·have hlt':(k:Int)<(N:Int):=by omega
   obtain⟨rfl,hcx⟩:=HE.out wr hbel k hlt;have HC:=zau (HIC.out wr hbel k hlt);have HT:=zau (HTK.out k hlt);obtain⟨d,hd⟩:∃d,l.getD k 0=d:=⟨_,rfl⟩;rw[hd]at hcx HC HT;have HOW:=zau hown;have HB:=zau hbel;have hsz:=hbel.size;clear hd hown hbel;go_wp2_with (first | (go_at_call 42;refine HC.out.mono ?_;rintro e w1 ⟨rfl,hb1⟩;have HB1:Hid (Below w.heap.size w w1):=HB.out.trans (hb1.mono hsz);have HOW1:=zau (zaG HOW.out hb1 (Nat.le_refl _));have hs1:=HB1.out.size;clear hb1) | (at_builtin;refine wpList_append_own _ rfl (.tmp 15) (.tmp 18) 86 rfl w.heap.size 9 i0 (.string ⟨#[]⟩) 1 16 Tryz.underlying86 HI.out.1 HI.out.2.1 HI.out.2.2.1 HI.out.2.2.2 rfl (by decide) (.slice ad6 k cap6) k ((l.take k).map (fun d=>za2 (Lib.itoa d))) rfl (HOW1.out.alloc _) ⟨w1.heap.size,0,none⟩ 1 1 [za2 (Lib.itoa d)] rfl rfl (cell_one_new _ _ _) (by simp[Value.oneCell']) (by unfold maxLen;omega) (by omega) (by simp;omega) ?_;intro v2 w2 hown2 hgr2 hnil2;obtain⟨g2,cap2,rfl⟩:=ownsRow_succ hown2));have HB2:Below w.heap.size w w2:=(HB1.out.alloc hs1 _).grown hgr2 (by simp;omega) (fun m hm=>(HOW1.out.lt m hm).1);go_roundw
   case rel=>exact⟨k+1,by omega,by go_num,by rw[HT.out];exact hown2,HB2⟩
   case measure=>simp[intOf];omega
  ·have hlt':¬(k:Int)<(N:Int):=by omega
   obtain rfl:k=N:=by omega
   rw[HALL.out]at hown;have HC:=zau (HJ.out wr _ hown);have HB:=zau hbel;have hsz:=hbel.size;clear hown hbel;go_wp2_with (go_at_call 43;refine HC.out.mono ?_;rintro e w1 ⟨rfl,hb1⟩);go_ret2;exact⟨rfl,HB.out.trans (hb1.mono hsz)⟩
end Go.Proofs.YthlhgiihngcobaaGreatDoor
namespace Go.Proofs.YthlhgiihngcobaaGreatDoor
open Go.RowKit Go.Shelf
attribute [local go_sem] Oper.semAt_some
abbrev Ln(P:List UInt8->Prop):={ l:List UInt8 // l.length<=3000/\P l }
def zBE:Value->Nat
 | .string b=>b.size
 | _=>0
theorem zxe(s:List UInt8)(w:World):Calls Tryz.prog 7 #[za2 s] w fun e w'=>e=.returned (.func (.func 12) #[] #[.pointer (some ⟨w.heap.size,0,none⟩)])/\w'=w.alloc (.cells #[za2 s] 9):=by go_enter Tryz.func7,Tryz.ntmps7;go_wp2_with fail;go_ret;exact⟨rfl,rfl⟩
theorem zrc(w:World):w.grownBy w.drew none:=⟨rfl,rfl,rfl,Nat.le_refl _,fun _ _ _=>rfl⟩
theorem zsQ{P:List UInt8->Prop}(n:Nat)(hn:1<=n)(l Bs n₀:Nat)(s:List UInt8)(hs:s.length<=3000)(hp:∀l∈linesT [] s,P l)(J Jx:List (Ln P)->World->Prop)(hJd:∀pre W,J pre W->J pre W.drew)
  (hY:∀pre x W,J pre W->pre.length<(linesT [] s).length->YieldAt Fence.wide (n-1) Tryz.prog l #[za2 x.1] W fun e W' =>(e=.returned (.bool true)/\J (pre++[x]) W'/\Below n₀ W W')\/(e=.returned (.bool false)/\Jx (pre++[x]) W'))
  (W:World) (hBs:W.cell? ⟨Bs,0,none⟩=some (za2 s)) (h0:J [] W) :
  CallsIn Fence.wide n Tryz.prog 12 #[.func (.yield l) #[] #[],.pointer (some ⟨Bs,0,none⟩)] W fun e W'=>(∃v,e=.returned v) /\
   ((∃ys,ys.map (·.1)=linesT [] s/\J ys W')\/(∃pre,True/\Jx pre W')):=by
 have HY:=zau hY;have HD:=zau hJd;have H0:=zau h0;have HS:=zau hs;have HP:=zau hp;clear hY hJd h0 hs hp;refine callsIn_of_wp Tryz.func12 rfl trivial ?_ rfl;simp only[Tryz.ntmps12,List.size_toArray,List.length_cons,List.length_nil,Nat.reduceAdd,Nat.reduceSub,Array.replicate_succ,Array.replicate_zero,List.push_toArray,List.append_toArray,List.nil_append,List.cons_append];gi_wp2
 gi_loopw [3] (fun p wr=>∃(pre:List (Ln P)) (rest:List UInt8),p=za2 rest/\rest.length<=3000/\pre.map (·.1)++linesT [] rest=linesT [] s/\J pre wr)
  (fun p _=>zBE p)
 case atStart=>exact⟨[],s,rfl,HS.out,rfl,H0.out⟩
 case round =>
  obtain⟨pre,rest,rfl,hr,he,hJ⟩:=hrel;cases rest with
  | nil =>
    have HJ:=zau hJ;have HE:Hid (pre.map (·.1)=linesT [] s):=by show _=_;rw[<-he];simp[linesT]
    have hem:(⟨([]:List UInt8).toArray⟩:ByteArray).toList=[]:=Lib.toList_data _;clear hJ he;gi_wp2;go_end0;exact⟨⟨_,rfl⟩,.inl ⟨pre,HE.out,HJ.out⟩⟩
  | cons c t =>
    have hem:(c::t).isEmpty=false:=rfl;obtain⟨q,hq⟩:∃q,c::t=q:=⟨_,rfl⟩;rw[hq]at hr he hem ⊢;have hne:q≠[]:=by rw[<-hq];simp
    clear hq;rcases cut_nl q with hc | ⟨u,r,rfl,hc⟩
    ·have HC:=zau (fun W=>zuR ⟨q.toArray⟩ W hc);have e1:linesT [] q=[q]:=by rw[znI [] q hc,List.nil_append,if_neg hne]
     rw[e1]at he;have HE:=zau he;have hPq:=HP.out q (by rw[<-he];exact List.mem_append_right _ List.mem_cons_self);obtain⟨fn,tmps,assign,body,hy,hR⟩:=HY.out pre ⟨q,hr,hPq⟩ wr hJ (by rw[<-he,List.length_append,List.length_map,List.length_singleton];omega);have HQ:Hid (0<q.length):=List.length_pos_iff.2 hne;clear hc e1 he hne hJ;dsimp only at hy;gi_wp2_with (refine⟨trivial,?_⟩;gi_at_call 13;refine(callsIn_wide.2 (HC.out _)).mono ?_;rintro e wr ⟨rfl,rfl⟩);refine hR.mono ?_;rintro e W3 (⟨rfl,hJ3,hk3⟩ | ⟨rfl,hJx3⟩)
     ·gi_wp2;go_roundw
      case rel=>exact⟨pre++[⟨q,hr,hPq⟩],[],rfl,Nat.zero_le _,by rw[List.map_append];exact(List.append_nil _).trans HE.out,hJ3⟩
      case measure=>exact HQ.out
     ·gi_wp2;refine bodyPost_ret (results_none rfl _ _ _) rfl ?_;exact⟨⟨_,rfl⟩,.inr ⟨_,trivial,hJx3⟩⟩
    ·have hlen:(u++10::r).length=u.length+(r.length+1):=by rw[List.length_append,List.length_cons]
     have hu:u.length<=3000:=by omega
     have hr2:r.length<=3000:=by omega
     have HC:=zau (fun W=>zxI u r W hc (by omega));rw[zr2 [] u r hc,List.nil_append]at he;have HE:=zau he;have hPq:=HP.out u (by rw[<-he];exact List.mem_append_right _ List.mem_cons_self);obtain⟨fn,tmps,assign,body,hy,hR⟩:=HY.out pre ⟨u,hu,hPq⟩ wr.drew (HD.out _ _ hJ) (by rw[<-he,List.length_append,List.length_map,List.length_cons];omega);have HQ:Hid (r.length<(u++10::r).length):=by show _<_;omega
     clear hc he hne hJ hlen;dsimp only at hy;gi_wp2_with (refine⟨trivial,?_⟩;gi_at_call 13;refine(callsIn_wide.2 (HC.out _)).mono ?_;rintro e w1 ⟨rfl,rfl⟩);refine hR.mono ?_;rintro e W3 (⟨rfl,hJ3,hk3⟩ | ⟨rfl,hJx3⟩)
     ·gi_wp2;go_roundw
      case rel=>exact⟨pre++[⟨u,hu,hPq⟩],r,rfl,hr2,by rw[List.map_append,List.append_assoc];exact HE.out,hJ3⟩
      case measure=>exact HQ.out
     ·gi_wp2;refine bodyPost_ret (results_none rfl _ _ _) rfl ?_;exact⟨⟨_,rfl⟩,.inr ⟨_,trivial,hJx3⟩⟩
end Go.Proofs.YthlhgiihngcobaaGreatDoor
