/-
  PROVED HERE: history.readOp answers as the plain reader says, whatever the word; history.readOps and history.Parse answer as the plain readers say, whatever the text.
  Conditions: none but those that each theorem's own premises say.
-/
import Derived.Test.YthlhgiihngcobaaGreatDoorMgax
import Derived.Test.YthlhgiihngcobaaGreatDoorMgaj
import Derived.Deep.LoopGhost
set_option maxHeartbeats 32000000
set_option maxRecDepth 100000
namespace Go.Proofs.YthlhgiihngcobaaGreatDoor
open Go.RowKit Go.PlainAid
def zoq(e:Ending)(r:Option Op3):Prop :=
 match r with
 | some o=>e=.returned (.tuple #[.agg #[.int .i64 o.1,.int .i64 o.2.1,.int .i64 o.2.2],.bool true])
 | none=>∃x y z:Int,e=.returned (.tuple #[.agg #[.int .i64 x,.int .i64 y,.int .i64 z],.bool false])
theorem zlL(c:UInt8):0<=zbf c/\zbf c<=4:=by have:=zdF [114,119,99,97] c;simp only[List.length_cons,List.length_nil]at this;unfold zbf;omega
theorem zfG(s:ByteArray)(k:Nat):(s.extract k s.size).data.toList=s.data.toList.drop k:=Lib.extract_to_end s k
theorem zbh(s:ByteArray)(w:World)(hs:s.size<=9223372036854775807):Calls Tryz.prog 175 #[.string s] w fun e w'=>zoq e (zb5 s.data.toList)/\Below w.heap.size w w':=by
 have hb:=get_bt s;have HL:Hid (s.data.toList.length=s.size):=zaZ s;have hdl:=Lib.toList_data s;by_cases h0:s.size=0
 ·have hnil:s.data.toList=[]:=List.length_eq_zero_iff.1 (by rw[HL.out];exact h0);have HR:Hid (zb5 s.data.toList=none):=by show zb5 s.data.toList=none;rw[hnil];rfl
  have hem:s.toList=[]:=by rw[hdl,hnil]
  clear hnil hdl;go_enter Tryz.func175,Tryz.ntmps175;go_wp2;refine bodyPost_ret (v:=.tuple #[.agg #[.int .i64 0,.int .i64 0,.int .i64 0],.bool false]) (by simp[results,Tryz.results175,go_sem]) rfl ⟨?_,?_⟩
  ·rw[HR.out];exact⟨0,0,0,rfl⟩
  ·go_grown
 ·obtain⟨c,hd0,hbt0⟩:=zho (s:=s) (k:=0) (by omega);rw[List.drop_zero]at hd0;have hem:s.toList.isEmpty=false:=by rw[hdl,hd0];rfl
  have hpos:0<s.size:=by omega
  have hbc:UInt8.ofNat (bt s 0).toNat=c:=by rw[hbt0];simp
  have hwb:=zlL c;have hib:Lib.indexByte [114,119,99,97] c=zbf c-1:=by unfold zbf;omega
  have HS:Hid (s.data.toList=c::s.data.toList.drop 1):=hd0;clear hdl hd0 hbt0 h0;by_cases hw0:zbf c=0
  ·have HR:Hid (zb5 s.data.toList=none):=by
    show zb5 s.data.toList=none;rw[HS.out];show(if zbf c=0 then none else _)=none;rw[if_pos hw0]
   have hw0':(zbf c == 0)=true:=by simpa using hw0
   go_enter Tryz.func175,Tryz.ntmps175;go_wp2_with (first | (go_at_call 210;refine(indexByte_any _ _ _).mono ?_;rintro e w' ⟨rfl,rfl⟩));refine bodyPost_ret (v:=.tuple #[.agg #[.int .i64 0,.int .i64 0,.int .i64 0],.bool false]) (by simp[results,Tryz.results175,go_sem]) rfl ⟨?_,?_⟩
   ·rw[HR.out];exact⟨0,0,0,rfl⟩
   ·go_grown
  ·have HR:Hid (zb5 s.data.toList=zcD (zbf c) (s.data.toList.drop 1)):=by
    show zb5 s.data.toList=zcD (zbf c) (s.data.toList.drop 1);rw[HS.out];show(if zbf c=0 then none else zcD (zbf c) (s.data.toList.drop 1))=_;rw[if_neg hw0];simp
   have hw0':(zbf c == 0)=false:=by simpa using hw0
   obtain⟨s1,hs1⟩:∃s1:ByteArray,s1=s.extract 1 s.size:=⟨_,rfl⟩;have hs1d:s1.data.toList=s.data.toList.drop 1:=by rw[hs1];exact zfG s 1
   have hs1z:s1.size=s.size-1:=by rw[<-zaZ,hs1d,List.length_drop,HL.out]
   have hs1':s.extract 1 s.size=s1:=hs1.symm;have HS1:Hid (s1.data.toList=s.data.toList.drop 1):=hs1d;rw[<-hs1d]at HR;have hs1s:s1.size<=9223372036854775807:=by omega
   have HZ1:Hid (s1.data.toList.length=s1.size):=zaZ s1;clear hs1 hs1d HS hs1z;cases hen:zax (zbf c)with
   | true =>
     cases hD:zaB s1.data.toList with
     | none =>
       have HR':Hid (zb5 s.data.toList=none):=by show zb5 s.data.toList=none;rw[HR.out,zcD,hen,if_pos rfl,hD];rfl
       have HD:Hid (zaB s1.data.toList=none):=hD;clear hD HR;go_enter Tryz.func175,Tryz.ntmps175;go_wp2_with (first | (go_at_call 210;refine(indexByte_any _ _ _).mono ?_;rintro e w1 ⟨rfl,hw1⟩;subst hw1) | (go_at_call 140;refine(ends_any _ _).mono ?_;rintro e w2 ⟨rfl,hw2⟩;subst hw2) | (go_at_call 212;refine(zbx s1 _ hs1s).mono ?_;rintro e w3 ⟨rfl,hw3⟩;subst hw3;rw[HD.out]));refine bodyPost_ret (v:=.tuple #[.agg #[.int .i64 0,.int .i64 (zbf c),.int .i64 0],.bool false]) (by simp[results,Tryz.results175,go_sem]) rfl ⟨?_,?_⟩
       ·rw[HR'.out];exact⟨_,_,_,rfl⟩
       ·go_grown
     | some t =>
       have HR':Hid (zb5 s.data.toList=some (t,zbf c,0)):=by show zb5 s.data.toList=some (t,zbf c,0);rw[HR.out,zcD,hen,if_pos rfl,hD];rfl
       have HD:Hid (zaB s1.data.toList=some t):=hD;clear hD HR;go_enter Tryz.func175,Tryz.ntmps175;go_wp2_with (first | (go_at_call 210;refine(indexByte_any _ _ _).mono ?_;rintro e w1 ⟨rfl,hw1⟩;subst hw1) | (go_at_call 140;refine(ends_any _ _).mono ?_;rintro e w2 ⟨rfl,hw2⟩;subst hw2) | (go_at_call 212;refine(zbx s1 _ hs1s).mono ?_;rintro e w3 ⟨rfl,hw3⟩;subst hw3;rw[HD.out]));refine bodyPost_ret (v:=.tuple #[.agg #[.int .i64 t,.int .i64 (zbf c),.int .i64 0],.bool true]) (by simp[results,Tryz.results175,go_sem]) rfl ⟨?_,?_⟩
       ·rw[HR'.out];exact rfl
       ·go_grown
   | false =>
     by_cases h3:3<=s1.size
     ·obtain⟨sI,hI⟩:∃x:ByteArray,x=s1.extract (s1.size-3) s1.size:=⟨_,rfl⟩;obtain⟨sD,hD⟩:∃x:ByteArray,x=s1.extract 0 (s1.size-3):=⟨_,rfl⟩;have HI:Hid (sI.data.toList=s1.data.toList.drop (s1.data.toList.length-3)):=by show sI.data.toList=s1.data.toList.drop (s1.data.toList.length-3);rw[hI,zfG,HZ1.out]
      have hDd:sD.data.toList=s1.data.toList.take (s1.data.toList.length-3):=by rw[hD,Lib.extract_data,HZ1.out];simp
      have HD:Hid (sD.data.toList=s1.data.toList.take (s1.data.toList.length-3)):=hDd;have hDs:sD.size<=9223372036854775807:=by rw[<-zaZ,hDd,List.length_take,HZ1.out];omega
      have hI':=hI.symm;have hD':=hD.symm;clear hI hD hDd;by_cases hit:za1 sI.data.toList=0
      ·have HR':Hid (zb5 s.data.toList=none):=by
        show zb5 s.data.toList=none;rw[HR.out,zcD,hen,if_neg (by simp),<-HI.out,if_pos hit]
       have HIT:Hid (za1 sI.data.toList=0):=hit;clear hit HR;go_enter Tryz.func175,Tryz.ntmps175;go_wp2_with (first | (go_at_call 210;refine(indexByte_any _ _ _).mono ?_;rintro e w1 ⟨rfl,hw1⟩;subst hw1) | (go_at_call 140;refine(ends_any _ _).mono ?_;rintro e w2 ⟨rfl,hw2⟩;subst hw2) | (go_at_call 211;refine(zbt sI _).mono ?_;rintro e w3 ⟨rfl,hw3⟩;subst hw3;rw[HIT.out]));refine bodyPost_ret (v:=.tuple #[.agg #[.int .i64 0,.int .i64 0,.int .i64 0],.bool false]) (by simp[results,Tryz.results175,go_sem]) rfl ⟨?_,?_⟩
       ·rw[HR'.out];exact⟨_,_,_,rfl⟩
       ·go_grown
      ·obtain⟨it,hit2⟩:∃n,za1 sI.data.toList=n:=⟨_,rfl⟩;have HIT:Hid (za1 sI.data.toList=it):=hit2;rw[hit2]at hit;have hit':(it == 0)=false:=by simpa using hit
       cases hdl:zaB sD.data.toList with
       | none =>
         have HR':Hid (zb5 s.data.toList=none):=by show zb5 s.data.toList=none;rw[HR.out,zcD,hen,if_neg (by simp),<-HI.out,hit2,if_neg hit,<-HD.out,hdl];rfl
         have HDL:Hid (zaB sD.data.toList=none):=hdl;clear hdl hit2 hit HR;go_enter Tryz.func175,Tryz.ntmps175;go_wp2_with (first | (go_at_call 210;refine(indexByte_any _ _ _).mono ?_;rintro e w1 ⟨rfl,hw1⟩;subst hw1) | (go_at_call 140;refine(ends_any _ _).mono ?_;rintro e w2 ⟨rfl,hw2⟩;subst hw2) | (go_at_call 211;refine(zbt sI _).mono ?_;rintro e w3 ⟨rfl,hw3⟩;subst hw3;rw[HIT.out]) | (go_at_call 212;refine(zbx sD _ hDs).mono ?_;rintro e w4 ⟨rfl,hw4⟩;subst hw4;rw[HDL.out]));refine bodyPost_ret (v:=.tuple #[.agg #[.int .i64 0,.int .i64 (zbf c),.int .i64 it],.bool false]) (by simp[results,Tryz.results175,go_sem]) rfl ⟨?_,?_⟩
         ·rw[HR'.out];exact⟨_,_,_,rfl⟩
         ·go_grown
       | some t =>
         have HR':Hid (zb5 s.data.toList=some (t,zbf c,it)):=by show zb5 s.data.toList=some (t,zbf c,it);rw[HR.out,zcD,hen,if_neg (by simp),<-HI.out,hit2,if_neg hit,<-HD.out,hdl];rfl
         have HDL:Hid (zaB sD.data.toList=some t):=hdl;clear hdl hit2 hit HR;go_enter Tryz.func175,Tryz.ntmps175;go_wp2_with (first | (go_at_call 210;refine(indexByte_any _ _ _).mono ?_;rintro e w1 ⟨rfl,hw1⟩;subst hw1) | (go_at_call 140;refine(ends_any _ _).mono ?_;rintro e w2 ⟨rfl,hw2⟩;subst hw2) | (go_at_call 211;refine(zbt sI _).mono ?_;rintro e w3 ⟨rfl,hw3⟩;subst hw3;rw[HIT.out]) | (go_at_call 212;refine(zbx sD _ hDs).mono ?_;rintro e w4 ⟨rfl,hw4⟩;subst hw4;rw[HDL.out]));refine bodyPost_ret (v:=.tuple #[.agg #[.int .i64 t,.int .i64 (zbf c),.int .i64 it],.bool true]) (by simp[results,Tryz.results175,go_sem]) rfl ⟨?_,?_⟩
         ·rw[HR'.out];exact rfl
         ·go_grown
     ·have HR':Hid (zb5 s.data.toList=none):=by
       show zb5 s.data.toList=none;rw[HR.out,zcD,hen,if_neg (by simp),if_pos (zcw (by rw[List.length_drop,HZ1.out];omega))]
      have HIT2:Hid (za1 s1.data.toList=0):=zcw (by rw[HZ1.out];omega);have HIT:Hid (za1 (s1.extract 0 s1.size).data.toList=0):=zcw (by rw[zfG,List.length_drop,HZ1.out];omega);clear HR;go_enter Tryz.func175,Tryz.ntmps175;go_wp2_with (first | (go_at_call 210;refine(indexByte_any _ _ _).mono ?_;rintro e w1 ⟨rfl,hw1⟩;subst hw1) | (go_at_call 140;refine(ends_any _ _).mono ?_;rintro e w2 ⟨rfl,hw2⟩;subst hw2) | (go_at_call 211;refine(zbt _ _).mono ?_;rintro e w3 ⟨rfl,hw3⟩;subst hw3;first | rw[HIT.out] | rw[HIT2.out]));refine bodyPost_ret (v:=.tuple #[.agg #[.int .i64 0,.int .i64 0,.int .i64 0],.bool false]) (by simp[results,Tryz.results175,go_sem]) rfl ⟨?_,?_⟩
      ·rw[HR'.out];exact⟨_,_,_,rfl⟩
      ·go_grown
end Go.Proofs.YthlhgiihngcobaaGreatDoor
namespace Go.Proofs.YthlhgiihngcobaaGreatDoor
open Go.RowKit Go.PlainAid
theorem zlK:∀(n:Nat) (l:List UInt8),l.length+1<=n->rdW n l=rdW (l.length+1) l:=by
 intro n
 induction n using Nat.strongRecOn with
 | _ n ih =>
   intro l hn;cases n with
   | zero=>omega
   | succ n =>
     unfold rdW;cases hc:(zb3 l).2 with
     | none=>rfl
     | some r =>
       have hl:=(zda hc).1;have hr:r.length+1<=l.length:=by have:=congrArg List.length hl;simp at this;omega
       simp only;cases zb5 (zb3 l).1 with
       | none=>rfl
       | some o =>
         simp only;rw[ih n (by omega) r (by omega)];rcases Nat.lt_or_ge l.length (n+1)with hlt | hge
         ·rw[ih l.length (by omega) r (by omega)]
         ·have:l.length=n:=by omega
          rw[this,ih n (by omega) r (by omega)]
theorem zkk{l:List UInt8}(hc:(zb3 l).2=none):rdW (l.length+1) l=(zb5 l).map fun o=>[o]:=by
 conv=>lhs;unfold rdW
 rw[hc,(zgo hc).1]
theorem zh2{l r:List UInt8}(hc:(zb3 l).2=some r):rdW (l.length+1) l=match zb5 (zb3 l).1 with | none=>none | some o=>(rdW (r.length+1) r).map fun x=>o::x:=by
 have hl:=(zda hc).1;have hr:r.length+1<=l.length:=by have:=congrArg List.length hl;simp at this;omega
 conv=>lhs;unfold rdW
 rw[hc];simp only;cases zb5 (zb3 l).1 with
 | none=>rfl
 | some o=>simp only;rw[zlK l.length r hr]
theorem zbU(ds:List Op3)(o:Op3):(ds++[o]).take 41=if ds.length<=40 then ds.take 41++[o]else ds.take 41:=by
 by_cases h:ds.length<=40
 ·rw[if_pos h,List.take_of_length_le (by simp;omega),List.take_of_length_le (by omega)]
 ·rw[if_neg h,List.take_append_of_le_length (by omega)]
theorem zcb{w:World}{base e size n:Nat}{v:Value}{xs:List Value}(h:w.ownsRow base e size v n xs):∃ad cap,v=.slice ad n cap:=by
 rcases h.2 with⟨hv,h0⟩ | ⟨g,cap,cur,hv,_⟩
 ·exact⟨none,0,by rw[hv,h0]⟩
 ·exact⟨_,_,hv⟩
def zfl(l rest:List UInt8)(ds:List Op3):Prop:=(rdW (rest.length+1) rest).map (ds ++ ·)=zaL l
theorem zfl.none_end{l rest:List UInt8}{ds:List Op3}(h:zfl l rest ds)(hc:(zb3 rest).2=none)(ho:zb5 rest=none):zaL l=none:=by unfold zfl at h;rw[zkk hc,ho]at h;exact h.symm
theorem zfl.some_end{l rest:List UInt8}{ds:List Op3}{o:Op3}(h:zfl l rest ds)(hc:(zb3 rest).2=none)(ho:zb5 rest=some o):zaL l=some (ds++[o]):=by unfold zfl at h;rw[zkk hc,ho]at h;exact h.symm
theorem zfl.none_more{l rest r:List UInt8}{ds:List Op3}(h:zfl l rest ds)(hc:(zb3 rest).2=some r)(ho:zb5 (zb3 rest).1=none):zaL l=none:=by unfold zfl at h;rw[zh2 hc,ho]at h;exact h.symm
theorem zfl.some_more{l rest r:List UInt8}{ds:List Op3}{o:Op3}(h:zfl l rest ds)(hc:(zb3 rest).2=some r)(ho:zb5 (zb3 rest).1=some o):zfl l r (ds++[o]):=by
 unfold zfl at h ⊢;rw[zh2 hc,ho]at h;rw[<-h];simp only;cases rdW (r.length+1) r with
 | none=>rfl
 | some x=>simp
def znP(B:Nat)(e:Ending)(w':World)(r:Option (List Op3)):Prop :=
 match r with
 | some ds=>∃v,e=.returned (.tuple #[v,.bool true])/\zal w' v (ds.take 41)/\w'.ownsRow B 103 3 v (ds.take 41).length (flat (ds.take 41))
 | none=>e=.returned (.tuple #[.slice none 0 0,.bool false])
theorem readOps_any(l:List UInt8)(w:World)(hs:l.length<=9223372036854775807):Calls Tryz.prog 107 #[.string ⟨l.toArray⟩] w fun e w'=>znP w.heap.size e w' (zaL l)/\Below w.heap.size w w':=by
 cases hl:l with
 | nil =>have hem:(⟨([]:List UInt8).toArray⟩:ByteArray).toList=[]:=Lib.toList_data _;go_enter Tryz.func107,Tryz.ntmps107;go_wp2;refine wp_loop_rounds 1 ?_;rw[rounds_succ];go_wp2;go_ret2;exact⟨⟨_,rfl,zgf _,World.ownsRow_nil _ _ _ _⟩,Below.refl _ _⟩
 | cons a0 r0 =>
   have hM:zfl (a0::r0) (a0::r0) []:=by unfold zfl zaL;rw[if_neg (by simp)];simp
   rw[hl]at hs;clear hl l;obtain⟨l,hl⟩:∃l,l=a0::r0:=⟨_,rfl⟩;rw[<-hl]at hM hs ⊢;have hem:l.isEmpty=false:=by rw[hl];rfl
   have HM:Hid (zfl l l []):=hM;clear hM hl a0 r0;obtain⟨i0,hi,hz0,hs0,hy0⟩:=info_parts zh0;have HI:Hid (Tryz.prog.info? 103=some i0/\i0.zero=some (.agg #[.int .i64 0,.int .i64 0,.int .i64 0])/\i0.size=3/\i0.bytes=24):=⟨hi,hz0,hs0,hy0⟩;clear hi hz0 hs0 hy0;go_enter Tryz.func107,Tryz.ntmps107;go_wp2
   go_loopg [0,5,4] (l.length+2) (fun k v0 v5 v4 wr=>∃(rest:List UInt8) (ds:List Op3) (m:Bool),v0=.string ⟨rest.toArray⟩/\v5=.bool m/\rest.length<=l.length/\wr.ownsRow w.heap.size 103 3 v4 (ds.take 41).length (flat (ds.take 41))/\(m=true->rest.length+1<k/\zfl l rest ds)/\(m=false->zaL l=some ds)/\Below w.heap.size w wr)
   case atStart=>exact⟨l,[],true,rfl,rfl,Nat.le_refl _,World.ownsRow_nil _ _ _ _,fun _=>⟨by omega,HM.out⟩,fun h=>(by cases h),Below.refl _ _⟩
   case round =>
    obtain⟨rest,ds,m,rfl,rfl,hrl,hown,hmt,hmf,hbel⟩:=hrel;obtain⟨n,hn⟩:∃n,(ds.take 41).length=n:=⟨_,rfl⟩;rw[hn]at hown;obtain⟨ad,cap,rfl⟩:=zcb hown;have HN:Hid ((ds.take 41).length=n):=hn;have htl:n<=41:=by have:(ds.take 41).length<=41:=List.length_take_le _ _;omega
    clear hn;have hsz:=hbel.size;cases m with
    | false =>have HF:Hid (zaL l=some ds):=hmf rfl;clear hmt hmf;go_wp2;go_ret2;refine⟨?_,hbel⟩;rw[HF.out];exact⟨_,rfl,zcf hown HN.out,by rw[HN.out];exact hown⟩
    | true =>
      obtain⟨hk,hMr⟩:=hmt rfl;have HMR:Hid (zfl l rest ds):=hMr;have HOWN:Hid (wr.ownsRow w.heap.size 103 3 (.slice ad n cap) n (flat (ds.take 41))):=hown;clear hmf hmt hMr hown;cases hcw:(zb3 rest).2 with
      | none =>
        have HC:Hid ((zb3 rest).2=none):=hcw;have HSZ:Hid ((⟨rest.toArray⟩:ByteArray).size<=9223372036854775807):=by show rest.toArray.size<=9223372036854775807;rw[List.size_toArray];omega
        have HNB:Hid ((32:UInt8) ∉ (⟨rest.toArray⟩:ByteArray).data.toList):=(zgo hcw).2;clear hcw;cases hro:zb5 rest with
        | none =>have HRO:Hid (zb5 (⟨rest.toArray⟩:ByteArray).data.toList=none):=hro;have HP:Hid (zaL l=none):=HMR.out.none_end HC.out hro;clear hro;go_wp2_with (first | (go_at_call 13;refine(zfM ⟨rest.toArray⟩ _ HNB.out).mono ?_;rintro e w1 ⟨rfl,hw1⟩;subst hw1) | (go_at_call 175;refine(zbh ⟨rest.toArray⟩ _ HSZ.out).mono ?_;rintro e w2 ⟨hret,hb2⟩;rw[HRO.out]at hret;obtain⟨x,y,z,rfl⟩:=hret;have HOW2:Hid (w2.ownsRow w.heap.size 103 3 (.slice ad n cap) n (flat (ds.take 41))):=zat (HOWN.out) hb2 (Nat.le_refl _);have hs2:=hb2.size;try simp at hs2));go_ret2;refine⟨?_,(hbel.trans (hb2.mono hsz)).alloc (by omega) _⟩;rw[HP.out];exact rfl
        | some o =>
          have HRO:Hid (zb5 (⟨rest.toArray⟩:ByteArray).data.toList=some o):=hro;have HP:Hid (zaL l=some (ds++[o])):=HMR.out.some_end HC.out hro;clear hro;by_cases h40:ds.length<=40
          ·have HTK:Hid ((ds++[o]).take 41=ds.take 41++[o]):=by show(ds++[o]).take 41=ds.take 41++[o];rw[zbU,if_pos h40]
           have h40':n<=40:=by rw[<-HN.out,List.length_take];omega
           go_wp2_with (first | (go_at_call 13;refine(zfM ⟨rest.toArray⟩ _ HNB.out).mono ?_;rintro e w1 ⟨rfl,hw1⟩;subst hw1) | (go_at_call 175;refine(zbh ⟨rest.toArray⟩ _ HSZ.out).mono ?_;rintro e w2 ⟨hret,hb2⟩;rw[HRO.out]at hret;subst hret;have HOW2:Hid (w2.ownsRow w.heap.size 103 3 (.slice ad n cap) n (flat (ds.take 41))):=zat (HOWN.out) hb2 (Nat.le_refl _);have hs2:=hb2.size;try simp at hs2) | (at_builtin;refine wpList_append_own _ rfl (.tmp 28) (.tmp 30) 28 rfl w.heap.size 103 i0 (.agg #[.int .i64 0,.int .i64 0,.int .i64 0]) 3 24 Tryz.underlying28 HI.out.1 HI.out.2.1 HI.out.2.2.1 HI.out.2.2.2 rfl (by decide) (.slice ad n cap) n (flat (ds.take 41)) rfl ((HOW2.out.alloc _).alloc _) ⟨w2.heap.size+1,0,none⟩ 1 1 (flat [(o.1,o.2.1,o.2.2)]) rfl rfl (by have:=zhX (w2.alloc (.cells #[.int .i64 o.1,.int .i64 o.2.1,.int .i64 o.2.2] 103)) o.1 o.2.1 o.2.2;simpa using this) (zcY _) (by unfold maxLen;omega) (by omega) (by simp;omega) ?_;intro v3 w3 hown3 hgr3 hnil3));have hB3:=(((hbel.trans (hb2.mono hsz)).alloc (by omega) _).alloc (by simp;omega) _).grown hgr3 (by simp;omega) (fun m hm=>(HOW2.out.lt m hm).1)
           go_roundg 0
           case measure=>omega
           case rel=>exact⟨[],ds++[o],false,rfl,rfl,by simp,by rw[HTK.out,List.length_append,HN.out,zbj];exact hown3,fun h=>(by cases h),fun _=>HP.out,hB3⟩
          ·have HTK:Hid ((ds++[o]).take 41=ds.take 41):=by show(ds++[o]).take 41=ds.take 41;rw[zbU,if_neg h40]
           have h40':40<n:=by rw[<-HN.out,List.length_take];omega
           go_wp2_with (first | (go_at_call 13;refine(zfM ⟨rest.toArray⟩ _ HNB.out).mono ?_;rintro e w1 ⟨rfl,hw1⟩;subst hw1) | (go_at_call 175;refine(zbh ⟨rest.toArray⟩ _ HSZ.out).mono ?_;rintro e w2 ⟨hret,hb2⟩;rw[HRO.out]at hret;subst hret;have HOW2:Hid (w2.ownsRow w.heap.size 103 3 (.slice ad n cap) n (flat (ds.take 41))):=zat (HOWN.out) hb2 (Nat.le_refl _);have hs2:=hb2.size;try simp at hs2));have hB3:=(hbel.trans (hb2.mono hsz)).alloc (by omega) (.cells #[.int .i64 o.1,.int .i64 o.2.1,.int .i64 o.2.2] 103)
           go_roundg 0
           case measure=>omega
           case rel=>exact⟨[],ds++[o],false,rfl,rfl,by simp,by rw[HTK.out,HN.out];exact HOW2.out.alloc _,fun h=>(by cases h),fun _=>HP.out,hB3⟩
      | some r =>
        have HC:Hid ((zb3 rest).2=some r):=hcw;have hre:=(zda hcw).1;have hnb:=(zda hcw).2;have hrr:rest.length=(zb3 rest).1.length+(r.length+1):=by have:=congrArg List.length hre;simpa using this
        obtain⟨u,hu⟩:∃u,(zb3 rest).1=u:=⟨_,rfl⟩;have HU:Hid ((zb3 rest).1=u):=hu;rw[hu]at hre hnb hrr;have HNB:Hid ((u++32::r).length<=9223372036854775807/\(32:UInt8) ∉ u):=⟨by rw[<-hre];omega,hnb⟩;have HSZ:Hid ((⟨u.toArray⟩:ByteArray).size<=9223372036854775807):=by show u.toArray.size<=9223372036854775807;rw[List.size_toArray];omega
        have HRS:Hid (rest=u++32::r):=hre;have hrl2:r.length<=l.length:=by omega
        have hk2:r.length+2<gk:=by omega
        clear hcw hnb hu hrr hk hrl;cases hro:zb5 u with
        | none =>have HRO:Hid (zb5 (⟨u.toArray⟩:ByteArray).data.toList=none):=hro;have HP:Hid (zaL l=none):=HMR.out.none_more HC.out (by rw[HU.out];exact hro);clear hro HMR HC HU HRS;subst hre;go_wp2_with (first | (go_at_call 13;refine(zgZ u r _ HNB.out.2 HNB.out.1).mono ?_;rintro e w1 ⟨rfl,hw1⟩;subst hw1) | (go_at_call 175;refine(zbh ⟨u.toArray⟩ _ HSZ.out).mono ?_;rintro e w2 ⟨hret,hb2⟩;rw[HRO.out]at hret;obtain⟨x,y,z,rfl⟩:=hret;have HOW2:Hid (w2.ownsRow w.heap.size 103 3 (.slice ad n cap) n (flat (ds.take 41))):=zat (HOWN.out.drew) hb2 (Nat.le_refl _);have hs2:=hb2.size;try simp at hs2));go_ret2;refine⟨?_,(hbel.drew.trans (hb2.mono (by simpa using hsz))).alloc (by omega) _⟩;rw[HP.out];exact rfl
        | some o =>
          have HRO:Hid (zb5 (⟨u.toArray⟩:ByteArray).data.toList=some o):=hro;have HP:Hid (zfl l r (ds++[o])):=HMR.out.some_more HC.out (by rw[HU.out];exact hro);clear hro HMR HC HU HRS;subst hre;by_cases h40:ds.length<=40
          ·have HTK:Hid ((ds++[o]).take 41=ds.take 41++[o]):=by show(ds++[o]).take 41=ds.take 41++[o];rw[zbU,if_pos h40]
           have h40':n<=40:=by rw[<-HN.out,List.length_take];omega
           go_wp2_with (first | (go_at_call 13;refine(zgZ u r _ HNB.out.2 HNB.out.1).mono ?_;rintro e w1 ⟨rfl,hw1⟩;subst hw1) | (go_at_call 175;refine(zbh ⟨u.toArray⟩ _ HSZ.out).mono ?_;rintro e w2 ⟨hret,hb2⟩;rw[HRO.out]at hret;subst hret;have HOW2:Hid (w2.ownsRow w.heap.size 103 3 (.slice ad n cap) n (flat (ds.take 41))):=zat (HOWN.out.drew) hb2 (Nat.le_refl _);have hs2:=hb2.size;try simp at hs2) | (at_builtin;refine wpList_append_own _ rfl (.tmp 28) (.tmp 30) 28 rfl w.heap.size 103 i0 (.agg #[.int .i64 0,.int .i64 0,.int .i64 0]) 3 24 Tryz.underlying28 HI.out.1 HI.out.2.1 HI.out.2.2.1 HI.out.2.2.2 rfl (by decide) (.slice ad n cap) n (flat (ds.take 41)) rfl ((HOW2.out.alloc _).alloc _) ⟨w2.heap.size+1,0,none⟩ 1 1 (flat [(o.1,o.2.1,o.2.2)]) rfl rfl (by have:=zhX (w2.alloc (.cells #[.int .i64 o.1,.int .i64 o.2.1,.int .i64 o.2.2] 103)) o.1 o.2.1 o.2.2;simpa using this) (zcY _) (by unfold maxLen;omega) (by omega) (by simp;omega) ?_;intro v3 w3 hown3 hgr3 hnil3));have hB3:=(((hbel.drew.trans (hb2.mono (by simpa using hsz))).alloc (by omega) _).alloc (by simp;omega) _).grown hgr3 (by simp;omega) (fun m hm=>(HOW2.out.lt m hm).1)
           go_roundg (r.length+2)
           case measure=>omega
           case rel=>exact⟨r,ds++[o],true,rfl,rfl,by omega,by rw[HTK.out,List.length_append,HN.out,zbj];exact hown3,fun _=>⟨by omega,HP.out⟩,fun h=>(by cases h),hB3⟩
          ·have HTK:Hid ((ds++[o]).take 41=ds.take 41):=by show(ds++[o]).take 41=ds.take 41;rw[zbU,if_neg h40]
           have h40':40<n:=by rw[<-HN.out,List.length_take];omega
           go_wp2_with (first | (go_at_call 13;refine(zgZ u r _ HNB.out.2 HNB.out.1).mono ?_;rintro e w1 ⟨rfl,hw1⟩;subst hw1) | (go_at_call 175;refine(zbh ⟨u.toArray⟩ _ HSZ.out).mono ?_;rintro e w2 ⟨hret,hb2⟩;rw[HRO.out]at hret;subst hret;have HOW2:Hid (w2.ownsRow w.heap.size 103 3 (.slice ad n cap) n (flat (ds.take 41))):=zat (HOWN.out.drew) hb2 (Nat.le_refl _);have hs2:=hb2.size;try simp at hs2));have hB3:=(hbel.drew.trans (hb2.mono (by simpa using hsz))).alloc (by omega) (.cells #[.int .i64 o.1,.int .i64 o.2.1,.int .i64 o.2.2] 103)
           go_roundg (r.length+2)
           case measure=>omega
           case rel=>exact⟨r,ds++[o],true,rfl,rfl,by omega,by rw[HTK.out,HN.out];exact HOW2.out.alloc _,fun _=>⟨by omega,HP.out⟩,fun h=>(by cases h),hB3⟩
end Go.Proofs.YthlhgiihngcobaaGreatDoor
