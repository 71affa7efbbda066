/-
  PROVED HERE: slices.DeleteFunc, with the closure of serial.Order, at a list of numbers that the call itself has made; odds.atOdds and odds.pairs answer as the plain functions of the text OddPlain say, for any list of at most 40.
  Conditions: none but those that each theorem's own premises say.
-/
import Derived.Test.YthlhgiihngcobaaGreatDoorMgbe
import Derived.BigQuiet
import Derived.Test.YthlhgiihngcobaaGreatDoorMgai
import Derived.Test.YthlhgiihngcobaaGreatDoorMgap
set_option maxHeartbeats 32000000
set_option maxRecDepth 100000
namespace Go.Proofs.YthlhgiihngcobaaGreatDoor
open Go.RowKit Go.Sort
theorem zez(bs:List Int)(bv:Value)(c:Nat)(x:Int)(W:World)(hc:W.cell? ⟨c,0,none⟩=some bv)(hI:zak W bv bs)(hl:bs.length<=10):FnGives Tryz.prog 47 #[.pointer (some ⟨c,0,none⟩)] #[.int .i64 x] (.bool (inB bs x)) W:=by show Calls Tryz.prog 47 #[.int .i64 x,.pointer (some ⟨c,0,none⟩)] W _;go_enter Tryz.func47,Tryz.ntmps47;go_wp2_with (go_at_call 48;refine(contains_ints bs bv x _ hI (by omega)).mono ?_;rintro e w' ⟨rfl,rfl⟩);go_ret;exact⟨rfl,0,rfl⟩
theorem zch{w W:World}{row:Option Nat}(h:Below w.heap.size w W):w.grownBy W row:=⟨h.os,h.tape,h.output,h.size,fun k hk _=>h.block k hk⟩
theorem zir(ds bs:List Int)(v bv:Value)(c base n:Nat)(w:World)(hn:ds.length=n)(hl:ds.length<=10)(hb:bs.length<=10)(h:w.ownsRow base 3 1 v n (ds.map (Value.int .i64)))
  (hB:∀W,w.grownBy W v.ownBlock->W.cell? ⟨c,0,none⟩=some bv/\zak W bv bs) :
  Calls Tryz.prog 50 #[v,.func (.func 47) #[] #[.pointer (some ⟨c,0,none⟩)]] w fun e w'=>∃v',e=.returned v'/\zgB w' v' (ds.filter fun x=>!inB bs x)/\w.grownBy w' v.ownBlock:=by
 subst hn;obtain⟨h0,⟨hv,hz⟩ | ⟨g,cap,cur,hv,hbase,hb1,h1,h2,h3,h4⟩⟩:=h
 ·subst hv;have e0:ds=[]:=List.length_eq_zero_iff.1 hz;subst e0;clear hB h0 hz;go_enter Tryz.func50,Tryz.ntmps50;go_wp2_with (go_at_call 117;refine(AnyE.slices_IndexFunc_empty Tryz.laysSlH6_f117 none 0 _ _).mono ?_;rintro e w' ⟨rfl,rfl⟩);go_ret;exact⟨_,rfl,⟨none,0,0,0,rfl,Nat.le_refl _,fun h=>absurd h (by simp),fun _=>rfl,.inr rfl,fun i hi=>by simp at hi⟩,⟨rfl,rfl,rfl,Nat.le_refl _,fun _ _ _=>rfl⟩⟩
 ·subst hv;have eg:∀args w,(callFunc 47 args).run Tryz.prog w=.ok (.enter 47 args) w:=enters_of Tryz.func47 (by kernel_rfl) rfl
  have hcon:=AnyE.slices_DeleteFunc Tryz.laysSlH10_f50 (Value.int .i64) (fun _=>rfl) (fun x=>inB bs x) 47 #[.pointer (some ⟨c,0,none⟩)] eg 0 Tryz.zeroValue3 g 0 cap ds.toArray w
   (fun W x hbw=>zez bs bv c x W (hB W (zch hbw)).1 (hB W (zch hbw)).2 hb)
   (fun q os dk x _=>zez bs bv c x _ (hB _ (grownBy_sortedI dk)).1 (hB _ (grownBy_sortedI dk)).2 hb)
   (holds_of_blockI hb1 (by simpa using h4)) (by simp;omega) (by simpa using h1)
  have e1:ds.toArray.toList=ds:=rfl;have e2:ds.toArray.size=ds.length:=rfl;rw[e1,e2]at hcon
  change Calls Tryz.prog 50 _ _ _ at hcon
  refine hcon.mono ?_;rintro e w' ⟨he,q,hw⟩;obtain⟨fs,hfs⟩:∃fs,(ds.filter fun x=>!inB bs x)=fs:=⟨_,rfl⟩;have hfl:fs.length<=ds.length:=by rw[<-hfs];exact List.length_filter_le ..
  rw[hfs]at he hw ⊢;have hrow:=ownsRow_sortedI (w:=w) (n:=q) (os:=#[]) (e:=3) (ts:=fs++List.replicate (ds.length-fs.length) 0) (by simp;omega) hbase hb1 h1 h2 h3;have hgr:=grownBy_sortedI (w:=w) (g:=g) (n:=q) (os:=#[]) (fs++List.replicate (ds.length-fs.length) 0).toArray;rw[grow_empty,<-hw]at hrow hgr;refine⟨_,he,⟨some ⟨g,0,none⟩,g,0,cap,rfl,by omega,fun _=>rfl,fun h=>(by cases h),.inl (by have:=(hrow.lt g rfl).2;exact this),fun i hi=>?_⟩,hgr⟩;have:=hrow.cells (g:=g) rfl i (.int .i64 (fs.getD i 0)) (by rw[List.getElem?_map,List.getElem?_append_left hi];simp[List.getD,List.getElem?_eq_getElem hi]);rw[Addr.add_lit]at this;exact this
end Go.Proofs.YthlhgiihngcobaaGreatDoor
namespace Go.Proofs.YthlhgiihngcobaaGreatDoor
open Go.RowKit
theorem odd_any(t a i t2 a2 i2:Int)(w:World):Calls Tryz.prog 178 #[.agg #[.int .i64 t,.int .i64 a,.int .i64 i],.agg #[.int .i64 t2,.int .i64 a2,.int .i64 i2]] w fun e w'=>e=.returned (.bool (zeG (t,a,i) (t2,a2,i2)))/\w'=(w.alloc (.cells #[.int .i64 t,.int .i64 a,.int .i64 i] 103)).alloc (.cells #[.int .i64 t2,.int .i64 a2,.int .i64 i2] 103):=by
 go_enter Tryz.func178,Tryz.ntmps178;go_wp2;all_goals go_ret
 all_goals exact⟨zbP (by simp_all [zeG]),by first | rfl | simp_all⟩
theorem zjB(l:List Op3)(v:Value)(w:World)(hI:zal w v l)(hl:l.length<=40):Calls Tryz.prog 110 #[v] w fun e w'=>∃v',e=.returned v'/\w'.ownsRow w.heap.size 131 2 v' (pairsL l).length (flatE (pairsL l))/\Below w.heap.size w w':=by
 obtain⟨ad,b,off,cap,rfl,ha,_,hbB,hops⟩:=hI;obtain⟨i0,hi,hz0,hs0,hy0⟩:=info_parts zhV;have HI:Hid (Tryz.prog.info? 131=some i0/\i0.zero=some (.agg #[.int .i64 0,.int .i64 0])/\i0.size=2/\i0.bytes=16):=⟨hi,hz0,hs0,hy0⟩;clear hi hz0 hs0 hy0;go_enter Tryz.func110,Tryz.ntmps110;go_wp2
 go_loopw [3,8] (fun v3 v8 wr=>∃i:Nat,i<=l.length/\v8=.int .i64 i/\wr.ownsRow w.heap.size 131 2 v3 (zaW l i).length (flatE (zaW l i))/\Below w.heap.size w wr) (fun _ v8 _=>l.length-(intOf v8).toNat)
 case atStart=>exact⟨0,Nat.zero_le _,rfl,World.ownsRow_nil _ _ _ _,Below.refl _ _⟩
 case round =>
  obtain⟨i,hi,rfl,hown,hbel⟩:=hrel;have HOWN:Hid (wr.ownsRow w.heap.size 131 2 u3 (zaW l i).length (flatE (zaW l i))):=hown;clear hown;by_cases hlt:i<l.length
  ·obtain rfl:=ha (by omega)
   have hb1:b<w.heap.size:=by
    rcases hbB with h | h
    ·exact h
    ·subst h;simp at hlt
   have HO:Hid (zdw w b off l):=hops;clear hops ha hbB;go_wp2
   go_loopw [3,5] (fun v3 v5 wr=>∃j:Nat,i<j/\j<=l.length/\v5=.int .i64 j/\wr.ownsRow w.heap.size 131 2 v3 (zbz l i j).length (flatE (zbz l i j))/\Below w.heap.size w wr) (fun _ v5 _=>l.length-(intOf v5).toNat)
   case atStart=>exact⟨i+1,by omega,by omega,by go_num,by rw[zhc];exact HOWN.out,hbel⟩
   case round =>
    clear hbel HOWN;obtain⟨j,hij,hj,rfl,hown,hbel⟩:=hrel;have hsz:=hbel.size;by_cases hjl:j<l.length
    ·obtain⟨c0,c1,c2⟩:=(HO.out.below hbel (.inl hb1)) i hlt;obtain⟨d0,d1,d2⟩:=(HO.out.below hbel (.inl hb1)) j hjl;obtain⟨⟨t,a,x⟩,ho⟩:∃o:Op3,l.getD i (0,0,0)=o:=⟨_,rfl⟩;obtain⟨⟨t2,a2,x2⟩,ho2⟩:∃o:Op3,l.getD j (0,0,0)=o:=⟨_,rfl⟩;rw[ho]at c0 c1 c2;rw[ho2]at d0 d1 d2;simp only at c0 c1 c2 d0 d1 d2;have HP:Hid (opAt l i=(t,a,x)/\opAt l j=(t2,a2,x2)):=⟨ho,ho2⟩;clear ho ho2;have hkl:=zkc l i j hl hi hj;obtain⟨n,hn⟩:∃n,(zbz l i j).length=n:=⟨_,rfl⟩;have HN:Hid ((zbz l i j).length=n):=hn;rw[hn]at hown hkl;have HOWN:Hid (wr.ownsRow w.heap.size 131 2 u3 n (flatE (zbz l i j))):=hown;clear hn hown;cases hq:zeG (t,a,x) (t2,a2,x2)with
     | false =>
       have HQ:Hid (zeG (opAt l i) (opAt l j)=false):=by show zeG (opAt l i) (opAt l j)=false;rw[HP.out.1,HP.out.2];exact hq
       go_wp2_with fail
       go_region_with (go_at_call 178;refine(odd_any _ _ _ _ _ _ _).mono ?_;rintro e w' ⟨rfl,rfl⟩)
       all_goals
        go_wp2;go_roundw
        case rel=>exact⟨j+1,by omega,by omega,by go_num,by rw[zit HQ.out,HN.out];exact((HOWN.out.alloc _).alloc _).drew,((hbel.alloc (by omega) _).alloc (by simp;omega) _).drew⟩
        case measure=>simp[intOf];omega
     | true =>
       have HQ:Hid (zeG (opAt l i) (opAt l j)=true):=by show zeG (opAt l i) (opAt l j)=true;rw[HP.out.1,HP.out.2];exact hq
       go_wp2_with fail
       go_region_with (go_at_call 178;refine(odd_any _ _ _ _ _ _ _).mono ?_;rintro e w' ⟨rfl,rfl⟩)
       all_goals
        have HW:Hid (∃W:World,W=((wr.alloc (.cells #[.int .i64 t,.int .i64 a,.int .i64 x] 103)).alloc (.cells #[.int .i64 t2,.int .i64 a2,.int .i64 x2] 103)).drew):=⟨_,rfl⟩;obtain⟨W,hW⟩:=HW.out;have hownW:W.ownsRow w.heap.size 131 2 u3 n (flatE (zbz l i j)):=by rw[hW];exact((HOWN.out.alloc _).alloc _).drew
        have hbW:Below w.heap.size w W:=by rw[hW];exact((hbel.alloc hsz _).alloc (by simp;omega) _).drew
        rw[<-hW];clear HW hW;have hszW:=hbW.size;go_wp2_with (at_builtin;refine wpList_append_own _ rfl (.tmp 28) (.tmp 32) 89 rfl w.heap.size 131 i0 (.agg #[.int .i64 0,.int .i64 0]) 2 16 Tryz.underlying89 HI.out.1 HI.out.2.1 HI.out.2.2.1 HI.out.2.2.2 rfl (by decide) u3 n (flatE (zbz l i j)) rfl (hownW.alloc _) ⟨W.heap.size,0,none⟩ 1 1 (flatE [((i:Int),(j:Int))]) rfl rfl (zhU W i j) (zd6 _) (by unfold maxLen;omega) (by omega) (by simp;omega) ?_;intro v1 w1 hown1 hgr1 hnil1);have hB1:=(hbW.alloc hszW _).grown hgr1 (by simp;omega) (fun m hm=>(hownW.lt m hm).1);go_roundw
        case rel=>exact⟨j+1,by omega,by omega,by go_num,by rw[zj2 hij HQ.out,List.length_append,HN.out,zcl];exact hown1,hB1⟩
        case measure=>simp[intOf];omega
    ·have HJ:Hid (j=l.length):=by show j=l.length;omega
     have HOWN:Hid (wr.ownsRow w.heap.size 131 2 u3 (zbz l i j).length (flatE (zbz l i j))):=hown;clear hown;go_wp2;go_roundw
     case rel=>exact⟨i+1,by omega,by go_num,by rw[<-ziA l i j HJ.out];exact HOWN.out,hbel⟩
     case measure=>simp[intOf];omega
  ·go_wp2;go_ret;have:=HOWN.out;exact⟨_,rfl,by rw[show pairsL l=zaW l i by unfold pairsL;rw[show i=l.length by omega]];exact this,hbel⟩
theorem zgj(l:List Op3)(v:Value)(w:World)(hI:zal w v l)(hl:l.length<=40):Calls Tryz.prog 110 #[v] w fun e w'=>∃v',e=.returned v'/\zae w' v' (pairsL l)/\Below w.heap.size w w' :=(zjB l v w hI hl).mono fun _ _ ⟨v',he,ho,hb⟩=>⟨v',he,zcJ ho rfl,hb⟩
end Go.Proofs.YthlhgiihngcobaaGreatDoor
