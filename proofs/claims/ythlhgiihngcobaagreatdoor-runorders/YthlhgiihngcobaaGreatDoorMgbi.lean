/-
  PROVED HERE: graph.Order gives the order that the plain function of the text GraphPlain2 makes of right edges, ErrCycle; serial.Order gives Check's error of a wrong list, ErrCycle where it goes around, else the order of all deals.
  Conditions: none but those that each theorem's own premises say.
-/
import Derived.Deep.Onto
import Derived.Test.YthlhgiihngcobaaGreatDoorMgbh
import Derived.Test.YthlhgiihngcobaaGreatDoorMgaj
import Derived.Maps.AppendAt
import Derived.Test.YthlhgiihngcobaaGreatDoorMgbd
import Derived.Test.YthlhgiihngcobaaGreatDoorMgbf
import Derived.Test.YthlhgiihngcobaaGreatDoorMgbg
import Derived.Test.YthlhgiihngcobaaGreatDoorMgam
import Derived.RegionTactic
import Derived.Deep.RegionWith
set_option maxHeartbeats 32000000
set_option maxRecDepth 100000
namespace Go.Proofs.YthlhgiihngcobaaGreatDoor
open Go.RowKit
theorem zjD(l:List zaa)(v:Value)(w:World)(hI:zae w v l)(hc:gchk l=0):Calls Tryz.prog 112 #[v] w fun e w'=>e=.returned .nilIface/\Below w.heap.size w w' :=(ziZ l v w hI).mono fun _ _ ⟨he,hb⟩=>⟨by rw[he,hc];rfl,hb⟩
def zjv:Value->Nat
 | .slice _ n _=>n
 | _=>0
theorem zkj{w:World}{base e s n:Nat}{v:Value}{xs:List Value}(h:w.ownsRow base e s v n xs):zjv v=n:=by
 obtain⟨_,⟨hv,hd⟩ | ⟨g,cap,cur,hv,_⟩⟩:=h
 ·rw[hv];show 0=n;omega
 ·rw[hv];rfl
theorem zjt(l:List zaa)(v:Value)(w:World)(hI:zae w v l)(hc:gchk l=0):Calls Tryz.prog 46 #[v] w fun e w'=>((∃o v',zbm l=some o/\e=.returned (.tuple #[v',.nilIface])/\w'.ownsRow w.heap.size 3 1 v' o.length (o.map (Value.int .i64))/\o.length<=7)\/(zbm l=none/\e=.returned (.tuple #[.slice none 0 0,.iface 80 (.int .i64 8)])))/\Below w.heap.size w w':=by
 have HI:Hid (∀W,Below w.heap.size w W->zae W v l):=fun W hW=>hI.below hW (Nat.le_refl _);have hl:=zlc hc;have HD:Hid (∀e∈l,(1<=e.1/\e.1<=6)/\(1<=e.2/\e.2<=6)):=zkx hc;have HC:Hid (gchk l=0):=hc;obtain⟨i0,hi,hz0,hs0,hy0⟩:=info_parts zdT;have HT:Hid (Tryz.prog.info? 3=some i0/\i0.zero=some (.int .i64 0)/\i0.size=1/\i0.bytes=8):=⟨hi,hz0,hs0,hy0⟩;clear hi hz0 hs0 hy0 hI hc;go_enter Tryz.func46,Tryz.ntmps46;go_wp2_with fail;refine(zjD l _ _ (HI.out _ (Below.refl _ _)) HC.out).mono ?_;rintro e w1 ⟨rfl,hb1⟩;go_wp2_with fail;refine(named_any l _ _ (HI.out _ hb1) HD.out hl).mono ?_;rintro e w2 ⟨rfl,hb2⟩;have hb02:=hb1.trans (hb2.mono hb1.size);have HN2:Hid (w.heap.size<=w2.heap.size):=hb02.size;go_wp2_with fail
 go_loopw [6] (fun v6 wr=>∃(n:Nat) (s:zaK) (out:List Int),zcs s<=n/\zbm l=orderGo l n s out/\out.length+zcs s<=7/\wr.ownsRow (w2.heap.size+1) 3 1 v6 out.length (out.map (Value.int .i64))/\zag wr w2.heap.size 7 s/\Below w.heap.size w wr) (fun v6 _=>8-zjv v6)
 case atStart=>exact⟨7,namedS l,[],cnt_le _,rfl,by have:=cnt_le (namedS l);simpa using this,World.ownsRow_nil _ _ _ _,zbC w2 (namedS l) _,hb02.alloc hb02.size _⟩
 case round =>
  clear hb1 hb2 hb02;obtain⟨n,s,out,hn,ho,hlen,hown,hs,hbel⟩:=hrel;have HN:Hid (zcs s<=n/\zbm l=orderGo l n s out/\out.length+zcs s<=7):=⟨hn,ho,hlen⟩;have hol:out.length<=7:=by omega
  have HOWN:Hid (wr.ownsRow (w2.heap.size+1) 3 1 u6 out.length (out.map (Value.int .i64))):=hown;have HS:Hid (zag wr w2.heap.size 7 s):=hs;have hB:=hs.lt (by omega);have hsl:=zkj hown;have HSL:Hid (zjv u6=out.length):=hsl;clear hn ho hlen hown hs hsl;go_wp2_with fail;refine(contains_bools s w2.heap.size 7 _ HS.out).mono ?_;rintro e w3 ⟨rfl,hb3⟩;have hb03:=hbel.trans (hb3.mono hbel.size);have HOWN3:Hid (w3.ownsRow (w2.heap.size+1) 3 1 u6 out.length (out.map (Value.int .i64))):=zat HOWN.out hb3 (Nat.le_refl _);have HS3:Hid (zag w3 w2.heap.size 7 s):=HS.out.below hb3 hB;have hB3:=HS3.out.lt (by omega);clear HOWN HS hB hb3 hbel;cases hany:zb4 s with
  | false =>
    have HR:Hid (zbm l=some out):=by show zbm l=some out;rw[HN.out.2.1,zeC hany]
    clear hany;go_wp2;go_ret2;exact⟨.inl ⟨out,_,HR.out,rfl,HOWN3.out.mono (by have:=HN2.out;omega),hol⟩,hb03⟩
  | true =>
    have HA:Hid (zb4 s=true):=hany;clear hany;have hc3:∀k,k<7->w3.cell? ⟨w2.heap.size,k,none⟩=some (.bool (s k)):=fun k hk=>(HS3.out k hk).1;go_wp2_with fail;refine(zlH l _ s _ (HI.out _ hb03) HD.out hl).mono ?_;rintro e w4 ⟨rfl,hb4⟩;have hb04:=hb03.trans (hb4.mono hb03.size);have HOWN4:Hid (w4.ownsRow (w2.heap.size+1) 3 1 u6 out.length (out.map (Value.int .i64))):=zat HOWN3.out hb4 (Nat.le_refl _);have HS4:Hid (zag w4 w2.heap.size 7 s):=HS3.out.below hb4 hB3;have hB4:=HS4.out.lt (by omega);clear HOWN3 HS3 hc3 hb4 hb03 hB3;by_cases h0:nextN l s=0
    ·have HR:Hid (zbm l=none):=by show zbm l=none;rw[HN.out.2.1,zdH HN.out.1 HA.out h0]
     rw[h0];clear h0;go_wp2;go_ret2;exact⟨.inr ⟨HR.out,rfl⟩,hb04⟩
    ·have hnx:=next_cases l s;obtain⟨t,ht⟩:∃t,nextN l s=t:=⟨_,rfl⟩;have HR:Hid (zbm l=orderGo l (n-1) (zcL s t false) (out++[(t:Int)])):=by show zbm l=_;rw[HN.out.2.1,zeT HN.out.1 HA.out h0,ht]
     rw[ht]at hnx h0 ⊢
     have ht6:1<=t/\t<=6/\s t=true:=by
      rcases hnx with⟨h,_⟩ | ⟨h1,h2,h3,_⟩
      ·exact absurd h h0
      ·exact⟨h1,h2,by unfold zau at h3;cases hst:s t with | true=>rfl | false=>rw[hst]at h3;cases h3⟩
     obtain⟨ht1,ht6,hst⟩:=ht6;have HC2:Hid (zcs (zcL s t false)+1=zcs s):=zgF (by omega) hst;obtain⟨c0,z0⟩:=HS4.out t (by omega);have ht0:((t:Int) == 0)=false:=by simpa using h0
     have ht7:(t:Int)<7:=by omega
     have hsz4:=hb04.size;clear hnx ht h0 hst;go_wp2_with (at_builtin;refine wpList_append_own _ rfl (.tmp 25) (.tmp 27) 24 rfl (w2.heap.size+1) 3 i0 (.int .i64 0) 1 8 Tryz.underlying24 HT.out.1 HT.out.2.1 HT.out.2.2.1 HT.out.2.2.2 rfl (by decide) u6 out.length (out.map (Value.int .i64)) rfl ((ownsRow_setCell_below HOWN4.out (by simp) _).alloc _) ⟨w4.heap.size,0,none⟩ 1 1 [.int .i64 t] rfl rfl (by have:=cell_one_new (w4.setCell ⟨w2.heap.size,t,none⟩ (.bool false)) (.int .i64 t) 3;simpa using this) (by simp[Value.oneCell']) (by unfold maxLen;omega) (by omega) (by simp;omega) ?_;intro v' w5 hown5 hgr5 hnil5);have hBn:u6.ownBlock≠some w2.heap.size:=fun e=>by have:=(HOWN4.out.lt _ e).1;omega
     have hb5:Below w.heap.size w w5:=((hb04.setCell HN2.out _).alloc (by simpa using hsz4) _).grown hgr5 (by simp;omega) (fun m hm=>by have:=(HOWN4.out.lt m hm).1;have:=HN2.out;omega);have hs5:zag w5 w2.heap.size 7 (zcL s t false):=((HS4.out.set false (by omega)).alloc _).grown hgr5 (by simp;omega) hBn;have hl5:=zkj hown5;refine⟨⟨n-1,zcL s t false,out++[(t:Int)],?_,HR.out,?_,?_,hs5,hb5⟩,?_⟩
     ·have:=HC2.out;have:=HN.out.1;omega
     ·have:=HC2.out;have:=HN.out.2.2;simp;omega
     ·simpa using hown5
     ·rw[hl5,HSL.out];omega
end Go.Proofs.YthlhgiihngcobaaGreatDoor
namespace Go.Proofs.YthlhgiihngcobaaGreatDoor
open Go.RowKit
theorem zmL(l:List Op3)(v:Value)(w:World)(h:zal w v l)(hc:(chk l).2=0):Calls Tryz.prog 22 #[v] w fun e w'=>((∃o v',za4 (doneL l)=some o/\e=.returned (.tuple #[v',.nilIface])/\zak w' v' o)\/(za4 (doneL l)=none/\e=.returned (.tuple #[.slice none 0 0,.iface 80 (.int .i64 8)])))/\Below w.heap.size w w':=by
 have hdd:=zfV l v w h hc;have hed:∀W,Below w.heap.size w W->Calls Tryz.prog 45 #[v] W fun e w'=>∃v',e=.returned (.tuple #[v',.nilIface])/\zae w' v' (zam (doneL l) 36)/\Below W.heap.size W w':=fun W hW=>zlp l v W (h.below hW (Nat.le_refl _)) hc;obtain⟨d,hd⟩:∃d,doneL l=d:=⟨_,rfl⟩;rw[hd]at hdd hed ⊢;have HD:Hid (Calls Tryz.prog 44 #[v] w fun e w'=>∃u v',e=.returned (.tuple #[u,v',.nilIface])/\zal w' u d/\w'.ownsRow w.heap.size 3 1 v' (zac d).length ((zac d).map (Value.int .i64))/\Below w.heap.size w w'):=hdd;have HE:Hid (∀W,Below w.heap.size w W->Calls Tryz.prog 45 #[v] W fun e w'=>∃v',e=.returned (.tuple #[v',.nilIface])/\zae w' v' (zam d 36)/\Below W.heap.size W w'):=hed;have HDL:Hid ((zac d).length<=6):=za7 d 6;clear hd hdd hed h hc;go_enter Tryz.func22,Tryz.ntmps22;go_wp2_with fail;refine HD.out.mono ?_;rintro e w1 ⟨u1,v1,rfl,hI1,hown1,hb1⟩;have HO1:Hid (w1.ownsRow w.heap.size 3 1 v1 (zac d).length ((zac d).map (Value.int .i64))):=hown1;clear hI1 hown1;go_wp2_with fail;refine(HE.out w1 hb1).mono ?_;rintro e w2 ⟨v2,rfl,hE2,hb2⟩;have hb02:=hb1.trans (hb2.mono hb1.size);have HE2:Hid (zae w2 v2 (zam d 36)):=hE2;clear hE2;go_wp2_with fail;refine(zjt (zam d 36) _ _ HE2.out (ziq d 36)).mono ?_;rintro e w3 ⟨hor,hb3⟩;have hb03:=hb02.trans (hb3.mono hb02.size);rcases hor with⟨o,v3,ho,rfl,hown3,hol⟩ | ⟨ho,rfl⟩
 ·have HQ:Hid (za4 d=some (weaveL o ((zac d).filter fun x=>!inB o x))):=by show za4 d=_;unfold za4;rw[ho];rfl
  have HO3:Hid (w3.ownsRow w2.heap.size 3 1 v3 o.length (o.map (Value.int .i64))):=hown3;have HO13:Hid (w3.ownsRow w.heap.size 3 1 v1 (zac d).length ((zac d).map (Value.int .i64))):=zdS (zdS HO1.out hb2) hb3;have HG:Hid (∀g,v1.ownBlock=some g->w.heap.size<=g/\g<w2.heap.size):=fun g hg=>by have h1:=HO1.out.lt g hg;have h2:=hb2.size;omega
  have hsz3:=hb3.size;have HB3:Hid (Below w.heap.size w w3):=hb03
  obtain⟨ad3,cap3,hv3⟩:∃ad cap,v3=.slice ad o.length cap:=by
   obtain⟨_,⟨h1,h2⟩ | ⟨g,c,cur,h1,_⟩⟩:=hown3
   ·exact⟨none,0,by rw[h1,h2]⟩
   ·exact⟨_,c,h1⟩
  obtain⟨n3,hn3⟩:∃n3,o.length=n3:=⟨_,rfl⟩;rw[hn3]at hv3 HO3 hol;have HN3:Hid (o.length=n3):=hn3;subst hv3;clear hown3 ho hb1 hb2 hb3 hb02 hb03 hn3;go_wp2_with fail;have HW:Hid (∃W:World,W=w3.alloc (.cells #[.slice ad3 n3 cap3] 24)):=⟨_,rfl⟩;obtain⟨W,hW⟩:=HW.out;clear HW;rw[<-hW]
  have HB:Hid (∀W',W.drew.grownBy W' v1.ownBlock->W'.cell? ⟨w3.heap.size,0,none⟩=some (.slice ad3 n3 cap3)/\zak W' (.slice ad3 n3 cap3) o):=fun W' hg=>by
   refine⟨hg.cell (show W.drew.cell? ⟨w3.heap.size,0,none⟩=some (.slice ad3 n3 cap3)by rw[hW];simp) fun e=>?_,?_⟩
   ·have:=HG.out _ e.symm;simp at this;omega
   ·refine zaF (World.ownsRow.kept (w:=W.drew) (by rw[hW];exact(HO3.out.alloc _).drew) hg ?_) HN3.out;cases hv:(Value.slice ad3 n3 cap3).ownBlock with
    | none=>exact .inl rfl
    | some k =>refine .inr fun e=>?_;have h1:=HG.out k e.symm;have h2:=HO3.out.lt k hv;omega
  have HOW:Hid (W.drew.ownsRow w.heap.size 3 1 v1 (zac d).length ((zac d).map (Value.int .i64))):=by rw[hW];exact(HO13.out.alloc _).drew
  have HBW:Hid (Below w.heap.size w W.drew):=by rw[hW];exact(HB3.out.alloc HB3.out.size _).drew
  have hcell:W.cell? ⟨w3.heap.size,0,none⟩=some (.slice ad3 n3 cap3):=by rw[hW];simp
  clear hW HO3 HO13
  go_region_with (first | (go_at_call 50;refine(zir (zac d) o v1 (.slice ad3 n3 cap3) w3.heap.size w.heap.size _ W.drew rfl (by have:=HDL.out;omega) (by have:=HN3.out;omega) HOW.out HB.out).mono ?_;rintro e w' ⟨v',rfl,hrow',hgr'⟩;have hcell':=(HB.out w' hgr').1) | (go_at_call 49;refine(zjA o _ _ _ _ (HB.out w' hgr').2 hrow' (by have:=HN3.out;omega) (by have h1:=List.length_filter_le (fun x=>!inB o x) (zac d);have:=HDL.out;omega)).mono ?_;rintro e w'' ⟨v'',rfl,hI'',hb''⟩))
  all_goals
   go_wp2;go_ret2;have hbb:Below w.heap.size w w':=HBW.out.grown hgr' HBW.out.size (fun m hm=>(HG.out m hm).1);exact⟨.inl ⟨_,_,HQ.out,rfl,hI''⟩,hbb.trans (hb''.mono hbb.size)⟩
 ·have HQ:Hid (za4 d=none):=by show za4 d=none;unfold za4;rw[ho];rfl
  clear ho;go_wp2_with fail;go_ret2;exact⟨.inr ⟨HQ.out,rfl⟩,hb03.alloc hb03.size _⟩
end Go.Proofs.YthlhgiihngcobaaGreatDoor
