/-
  PROVED HERE: memory while locks.Table's Free goes over those that wait; locks.Table's method Free, over a table in memory; a row of one's own of which the slice shows a later piece (s = s[1:]), what append makes of it, and where it; how a run of deals that keep locks (strict.lane.
  Conditions: none but those that each theorem's own premises say.
-/
import Derived.Test.YthlhgiihngcobaaGreatDoorMgbj
import Derived.Test.YthlhgiihngcobaaGreatDoorMgbk
import Derived.Test.YthlhgiihngcobaaGreatDoorMgbh
set_option maxHeartbeats 32000000
set_option maxRecDepth 100000
namespace Go.Proofs.YthlhgiihngcobaaGreatDoor
open Go.RowKit
theorem zpX(s:za3)(o:List Op3)(x:Op3):grant (s,o) x=((zcp s x).2,if(zcp s x).1=true then o++[x]else o):=by unfold grant zcp;split <;> rfl
theorem zm1{s:za3 × List Op3}{x:Op3}(h1:∀y∈s.1.1,zak y=true)(h2:∀y∈s.1.2,zak y=true)(hx:zak x=true):(∀y∈(grant s x).1.1,zak y=true)/\∀y∈(grant s x).1.2,zak y=true:=by
 unfold grant;split
 ·refine⟨fun y hy=>?_,h2⟩;rcases mem_holdL hy with rfl | hy
  ·exact hx
  ·exact h1 y hy
 ·refine⟨h1,fun y hy=>?_⟩;rcases List.mem_append.1 hy with hy | hy
  ·exact h2 y hy
  ·rw[List.mem_singleton.1 hy];exact hx
theorem zlx:∀(l:List Op3) (s:za3 × List Op3),(∀y∈s.1.1,zak y=true)->(∀y∈s.1.2,zak y=true)->(∀y∈l,zak y=true)->(∀y∈(grants s l).1.1,zak y=true)/\∀y∈(grants s l).1.2,zak y=true:=by
 intro l
 induction l with
 | nil=>intro s h1 h2 _;exact⟨h1,h2⟩
 | cons x r ih =>intro s h1 h2 h3;obtain⟨k1,k2⟩:=zm1 h1 h2 (h3 x List.mem_cons_self);exact ih (grant s x) k1 k2 fun y hy=>h3 y (List.mem_cons_of_mem _ hy)
structure zdW(w0 w:World)(ty:TypeId)(T o:Nat)(cs:Array Value)(hv0 wv0 rv:Value)(rest:List Op3)(st:za3 × List Op3)(hv wv ov:Value):Prop where
 tab:zaK w ty T o (put2 cs o hv wv) hv wv st.1
 out:w.ownsRow w0.heap.size 269 3 ov st.2.length (flat st.2)
 row:w.ownsRow (T+1) 269 3 rv rest.length (flat rest)
 so:∀g,ov.ownBlock=some g->¬zfX T hv wv g
 sr:∀g,rv.ownBlock=some g->¬zfX T hv wv g/\ov.ownBlock≠some g
 turn:zac (zfX T hv0 wv0) w0 w
 feet:∀k,zfX T hv wv k->zfX T hv0 wv0 k\/w0.heap.size<=k
theorem zdW.below{w0 w w1:World}{ty:TypeId}{T o:Nat}{cs:Array Value}{hv0 wv0 rv hv wv ov:Value}{rest:List Op3}{st:za3 × List Op3}(h:zdW w0 w ty T o cs hv0 wv0 rv rest st hv wv ov)(hb:Below w.heap.size w w1):zdW w0 w1 ty T o cs hv0 wv0 rv rest st hv wv ov :=⟨h.tab.below hb,(zac.of_below (F:=fun _=>False) hb).own h.out fun _ _ hf=>hf,(zac.of_below (F:=fun _=>False) hb).own h.row fun _ _ hf=>hf,h.so,h.sr,h.turn.then_below hb,h.feet⟩
theorem zdW.step{w0 w w1:World}{ty:TypeId}{T o:Nat}{cs:Array Value}{hv0 wv0 rv hv wv ov:Value}{rest:List Op3}{st:za3 × List Op3}{s2:za3}(h:zdW w0 w ty T o cs hv0 wv0 rv rest st hv wv ov)(hs:TabStep w w1 ty T o (put2 cs o hv wv) hv wv s2):∃hv1 wv1,zdW w0 w1 ty T o cs hv0 wv0 rv rest (s2,st.2) hv1 wv1 ov:=by
 obtain⟨hv1,wv1,ht,htu,hf⟩:=hs;rw[zmq]at ht;refine⟨hv1,wv1,ht,htu.own h.out fun g hg=>h.so g hg,htu.own h.row fun g hg=>(h.sr g hg).1,fun g hg hk=>?_,fun g hg=>⟨fun hk=>?_,(h.sr g hg).2⟩,h.turn.trans htu fun k hk hk2=>?_,fun k hk=>?_⟩
 ·rcases hf g hk with h1 | h1
  ·exact h.so g hg h1
  ·have:=(h.out.lt g hg).2;omega
 ·rcases hf g hk with h1 | h1
  ·exact(h.sr g hg).1 h1
  ·have:=(h.row.lt g hg).2;omega
 ·rcases h.feet k hk2 with h1 | h1
  ·exact h1
  ·omega
 ·rcases hf k hk with h1 | h1
  ·exact h.feet k h1
  ·exact .inr (Nat.le_trans h.turn.size h1)
theorem zdW.more{w0 w w1:World}{ty:TypeId}{T o:Nat}{cs:Array Value}{hv0 wv0 rv hv wv ov ov1:Value}{rest:List Op3}{st:za3 × List Op3}{ol:List Op3}(h:zdW w0 w ty T o cs hv0 wv0 rv rest st hv wv ov)(ht:zac (fun k=>ov.ownBlock=some k) w w1)
  (hown:w1.ownsRow w0.heap.size 269 3 ov1 ol.length (flat ol)) (hap:∀g,ov1.ownBlock=some g->ov.ownBlock=some g\/w.heap.size<=g):zdW w0 w1 ty T o cs hv0 wv0 rv rest (st.1,ol) hv wv ov1:=by
 refine⟨h.tab.turn ht fun k hk e=>h.so k e hk,hown,ht.own h.row fun g hg e=>(h.sr g hg).2 e,fun g hg hk=>?_,fun g hg=>⟨(h.sr g hg).1,fun e=>?_⟩,h.turn.trans ht fun k hk e=>?_,h.feet⟩
 ·rcases hap g hg with h1 | h1
  ·exact h.so g h1 hk
  ·have:=(h.tab.foot_lt hk).2;omega
 ·rcases hap g e with h1 | h1
  ·exact(h.sr g hg).2 h1
  ·have:=(h.row.lt g hg).2;omega
 ·have:=(h.out.lt k e).1;omega
theorem zuE{w w1:World}{ty:TypeId}{T o:Nat}{cs:Array Value}{hv wv:Value}{s:za3}(h:zaK w ty T o cs hv wv s)(ht:zac (fun k=>wv.ownBlock=some k) w w1):zaK (w1.setCell ⟨T,o+1,none⟩ (.slice none 0 0)) ty T o (put2 cs o hv (.slice none 0 0)) hv (.slice none 0 0) (s.1,[])/\zac (zfX T hv wv) w (w1.setCell ⟨T,o+1,none⟩ (.slice none 0 0)):=by have hl:=h.lt;have hT:w1.heap[T]? = some (.cells cs ty (0,0)):=(ht.block T hl (fun e=>by have:=(h.ow.lt T e).1;omega)).trans h.blk;refine⟨⟨?_,zkr h.room,zjY h.room,ownsRow_setCell_below (ht.own h.oh fun g hg e=>h.apart g hg e) (by show T<T+1;omega) _,World.ownsRow_nil _ _ _ _,fun g _ h2=>by simp[Value.ownBlock]at h2⟩,(ht.mono fun k _ e=>.inr (.inr e)).setCell (.inl (.inl rfl)) _⟩;rw[za9 hT,zyn _ h.at0]
theorem zdW.start{w0 w w1:World}{ty:TypeId}{T o:Nat}{cs:Array Value}{hv0 wv0 hv wv rv:Value}{rest:List Op3}{s s0:za3}(h0:zaK w0 ty T o cs hv0 wv0 s0)(h:zaK w ty T o (put2 cs o hv wv) hv wv s)(hturn:zac (zfX T hv0 wv0) w0 w)(hfeet:∀k,zfX T hv wv k->zfX T hv0 wv0 k\/w0.heap.size<=k)(ht:zac (fun k=>wv.ownBlock=some k) w w1)
  (hrow:w1.ownsRow (T+1) 269 3 rv rest.length (flat rest)) (hrv:∀g,rv.ownBlock=some g->wv.ownBlock=some g):zdW w0 (w1.setCell ⟨T,o+1,none⟩ (.slice none 0 0)) ty T o cs hv0 wv0 rv rest ((s.1,[]),[]) hv (.slice none 0 0) (.slice none 0 0):=by
 obtain⟨k1,k2⟩:=zuE h ht;rw[zmq]at k1;have hT0:=h0.lt;refine⟨k1,World.ownsRow_nil _ _ _ _,ownsRow_setCell_below hrow (by show T<T+1;omega) _,fun g hg=>by simp[Value.ownBlock]at hg,fun g hg=>⟨fun hk=>?_,by simp[Value.ownBlock]⟩,hturn.trans k2 fun k hk hk2=>?_,fun k hk=>?_⟩
 ·rcases hk with hk | hk | hk
  ·have:=(hrow.lt g hg).1;omega
  ·exact h.apart g hk (hrv g hg)
  ·simp[Value.ownBlock]at hk
 ·rcases hfeet k hk2 with h1 | h1
  ·exact h1
  ·omega
 ·rcases hk with hk | hk | hk
  ·exact hfeet k (.inl hk)
  ·exact hfeet k (.inr (.inl hk))
  ·simp[Value.ownBlock]at hk
end Go.Proofs.YthlhgiihngcobaaGreatDoor
namespace Go.Proofs.YthlhgiihngcobaaGreatDoor
open Go.RowKit
theorem ze3(l:List Op3)(ad:Option Addr)(n c:Nat)(t:Int)(T:Nat)(w V:World)(P2:Nat)(hown:w.ownsRow (T+1) 269 3 (.slice ad n c) n (flat l))(hl:l.length=n)(hn:n<=400)(hV:Below w.heap.size w V)(hc:V.cell? ⟨P2,0,none⟩=some (.int .i64 t))(hP:w.heap.size<=P2):Calls Tryz.prog 257 #[.slice ad n c,.func (.func 259) #[] #[.pointer (some ⟨P2,0,none⟩)]] V fun r w'=>∃ad' c',r=.returned (.slice ad' (withoutL l t).length c')/\w'.ownsRow (T+1) 269 3 (.slice ad' (withoutL l t).length c') (withoutL l t).length (flat (withoutL l t))/\zac (fun k=>(Value.slice ad n c).ownBlock=some k) w w'/\∀g,(Value.slice ad' (withoutL l t).length c').ownBlock=some g->(Value.slice ad n c).ownBlock=some g:=by
 subst hl;refine(znp l _ (fun y=>y.1 == t) _ (T+1) #[.pointer (some ⟨P2,0,none⟩)] V zmV ((zac.of_below (F:=fun _=>False) hV).own hown fun _ _ hf=>hf) hn fun W hW e _=>ztb e t P2 W ?_).mono ?_
 ·exact(hW.cell (p:=⟨P2,0,none⟩) (World.block_lt_of_cell? V _ hc) (fun h=>by have:=(hown.lt P2 h).2;omega)).trans hc
 ·rintro e w' ⟨v',rfl,h1,h2,h3⟩;obtain⟨ad',c',rfl,-⟩:=zad h1;exact⟨ad',c',rfl,h1,(zac.of_below hV).trans h2 fun _ _ h=>h,h3⟩
theorem zt4(T:Nat)(cs:Array Value)(hv wv:Value)(s:za3)(t:Int)(w:World)(h:zaK w 267 T 0 cs hv wv s)(hl1:s.1.length<=400)(hl2:s.2.length<=400)(hok1:∀y∈s.1,zak y=true)(hok2:∀y∈s.2,zak y=true):Calls Tryz.prog 220 #[.pointer (some ⟨T,0,none⟩),.int .i64 t] w fun e w'=>∃v',e=.returned (.tuple #[v',zeH (zdp s t).1.2])/\w'.ownsRow w.heap.size 269 3 v' (zdp s t).1.1.length (flat (zdp s t).1.1)/\∃hv' wv',(∀g,v'.ownBlock=some g->¬zfX T hv' wv' g)/\zaK w' 267 T 0 (put2 cs 0 hv' wv') hv' wv' (zdp s t).2/\zac (zfX T hv wv) w w'/\∀k,zfX T hv' wv' k->zfX T hv wv k\/w.heap.size<=k:=by
 obtain⟨i0,hi,hz0,hs0,hy0⟩:=info_parts zkm;have HI:Hid (Tryz.prog.info? 269=some i0/\i0.zero=some (.agg #[.int .i64 0,.int .i64 0,.int .i64 0])/\i0.size=3/\i0.bytes=24):=⟨hi,hz0,hs0,hy0⟩;obtain⟨ad,c,rfl,-⟩:=zad h.oh;obtain⟨wad,wq,rfl,-⟩:=zad h.ow;obtain⟨n1,hn1⟩:∃n,s.1.length=n:=⟨_,rfl⟩;obtain⟨ln,hln⟩:∃n,s.2.length=n:=⟨_,rfl⟩;rw[hn1]at h hl1 ⊢;rw[hln]at h hl2 ⊢;have HN1:Hid (s.1.length=n1):=hn1;have HLN:Hid (s.2.length=ln):=hln;have HOK:Hid ((∀y∈s.1,zak y=true)/\∀y∈s.2,zak y=true):=⟨hok1,hok2⟩;have HT:Hid (zaK w 267 T 0 cs (.slice ad n1 c) (.slice wad ln wq) s):=h;have hTl:=h.lt;have c0:=h.c0;clear h hn1 hln hok1 hok2 hi hz0 hs0 hy0;go_enter Tryz.func220,Tryz.ntmps220;go_wp2_with fail;refine(pDeal_any t w).mono ?_;rintro e w0 ⟨rfl,hw0⟩;rw[hw0];clear hw0;by_cases hd:1<=t/\t<=6
 ·have hd':decide (1<=t/\t<=6)=true:=decide_eq_true hd;have HFU:Hid (zdp s t=(((freeT s t).2,0),(freeT s t).1)):=by show zdp _ _=_;unfold zdp;rw[if_pos hd]
  rw[hd'];clear hd hd';have HOF:Hid (Calls Tryz.prog 225 #[.int .i64 t] w.drew fun e w'=>∃P2:Nat,e=.returned (.func (.func 259) #[] #[.pointer (some ⟨P2,0,none⟩)])/\w'.cell? ⟨P2,0,none⟩=some (.int .i64 t)/\Below w.heap.size w w'/\w.heap.size<=P2):=zeG t w w.drew (Below.refl _ w).drew
  have HDF:Hid (∀(V:World) (P2:Nat),Below w.heap.size w V->V.cell? ⟨P2,0,none⟩=some (.int .i64 t)->w.heap.size<=P2->Calls Tryz.prog 257 #[.slice ad n1 c,.func (.func 259) #[] #[.pointer (some ⟨P2,0,none⟩)]] V fun r w'=>∃ad' n' c',r=.returned (.slice ad' n' c')/\w'.cell? ⟨T,0,none⟩=some (.slice ad n1 c)/\w'.frozen? ⟨T,0,none⟩=false/\n'=(withoutL s.1 t).length/\TabStep w (w'.setCell ⟨T,0,none⟩ (.slice ad' n' c')) 267 T 0 cs (.slice ad n1 c) (.slice wad ln wq) (withoutL s.1 t,s.2)):=fun V P2 hV hc hP=>by
   have hoh:w.ownsRow (T+1) 269 3 (.slice ad n1 c) n1 (flat s.1):=by have:=HT.out.oh;rw[HN1.out]at this;exact this
   refine(ze3 s.1 ad n1 c t T w V P2 hoh HN1.out hl1 hV hc hP).mono ?_;rintro e w' ⟨ad',c',rfl,h1,h2,h3⟩;have hnT:¬(Value.slice ad n1 c).ownBlock=some T:=fun e=>by have:=(hoh.lt T e).1;omega
   exact⟨ad',_,c',rfl,(h2.cell (p:=⟨T,0,none⟩) hTl hnT).trans c0,(World.frozen?_of_block (a:=⟨T,0,none⟩) (h2.block T hTl hnT)).trans (HT.out.thaw 0),rfl,zpT HT.out h2 h1 fun g hg=>.inl (h3 g hg)⟩
  have HKC:Hid (∀V,Below w.heap.size w V->V.cell? ⟨T,0,none⟩=some (.slice ad n1 c)):=fun V hV=>(HT.out.below hV).c0;go_wp2_with fail
  go_region_with (first | (go_at_call 225;refine HOF.out.mono ?_;rintro e w2 ⟨P2,rfl,hc2,hb2,hP2⟩;have ke0:=HKC.out w2 hb2) | (go_at_call 257;refine(HDF.out _ _ hb2 hc2 hP2).mono ?_;rintro e w3 ⟨ad3,n3,c3,rfl,kd0,kd1,hn3,hst3⟩;have HST3:=zdY hst3;have HN3:=zdY hn3;clear hst3 hn3))
  all_goals
   obtain⟨X,hX⟩:∃X,X=w3.setCell ⟨T,0,none⟩ (.slice ad3 n3 c3):=⟨_,rfl⟩;rw[<-hX]at HST3 ⊢;obtain⟨hv4,wv4,ht4,htu4,hf4⟩:=HST3.out;obtain⟨ha,hc,ehv,-⟩:=zad ht4.oh;obtain⟨wa,wk,ewv,-⟩:=zad ht4.ow;simp only at ehv ewv;rw[HLN.out]at ewv;obtain⟨nh,hnh⟩:∃n,(withoutL s.1 t).length=n:=⟨_,rfl⟩;rw[hnh]at ehv;subst ehv;subst ewv;have HT4:Hid (zaK X 267 T 0 (put2 cs 0 (.slice ha nh hc) (.slice wa ln wk)) (.slice ha nh hc) (.slice wa ln wk) (withoutL s.1 t,s.2)):=ht4;have HTU4:Hid (zac (zfX T (.slice ad n1 c) (.slice wad ln wq)) w X):=htu4;have HF4:Hid (∀k,zfX T (.slice ha nh hc) (.slice wa ln wk) k->zfX T (.slice ad n1 c) (.slice wad ln wq) k\/w.heap.size<=k):=hf4;have hTX:=ht4.lt;have c1:=ht4.c1;simp only[Nat.zero_add]at c1;obtain⟨rest,hrest⟩:∃r,withoutL s.2 t=r:=⟨_,rfl⟩;have HGR:Hid (freeT s t=grants ((withoutL s.1 t,[]),[]) rest):=by show freeT s t=_;unfold freeT;rw[hrest]
   have HRL:Hid (rest.length<=400):=by show rest.length<=400;have h1:(withoutL s.2 t).length<=s.2.length:=List.length_filter_le _ _;rw[HLN.out,hrest]at h1;omega
   have HRO:Hid (∀y∈rest,zak y=true):=fun y hy=>HOK.out.2 y (List.mem_filter.1 (hrest ▸hy)).1;clear hX kd0 kd1 ke0 hc2 hb2 hP2 HN3 HOF HDF HKC c0 HST3 ht4 htu4 hf4 hnh;have HOF:Hid (Calls Tryz.prog 225 #[.int .i64 t] X.drew fun e w'=>∃P2:Nat,e=.returned (.func (.func 259) #[] #[.pointer (some ⟨P2,0,none⟩)])/\w'.cell? ⟨P2,0,none⟩=some (.int .i64 t)/\Below X.heap.size X w'/\X.heap.size<=P2):=zeG t X X.drew (Below.refl _ X).drew
   have HDF:Hid (∀(V:World) (P2:Nat),Below X.heap.size X V->V.cell? ⟨P2,0,none⟩=some (.int .i64 t)->X.heap.size<=P2->Calls Tryz.prog 257 #[.slice wa ln wk,.func (.func 259) #[] #[.pointer (some ⟨P2,0,none⟩)]] V fun r w'=>∃ad' c',r=.returned (.slice ad' rest.length c')/\w'.cell? ⟨T,1,none⟩=some (.slice wa ln wk)/\w'.frozen? ⟨T,1,none⟩=false/\zdW w (w'.setCell ⟨T,1,none⟩ (.slice none 0 0)) 267 T 0 cs (.slice ad n1 c) (.slice wad ln wq) (.slice ad' rest.length c') rest ((withoutL s.1 t,[]),[]) (.slice ha nh hc) (.slice none 0 0) (.slice none 0 0)):=fun V P2 hV hcc hP=>by
    have how:X.ownsRow (T+1) 269 3 (.slice wa ln wk) ln (flat s.2):=by have:=HT4.out.ow;rw[HLN.out]at this;exact this
    refine(ze3 s.2 wa ln wk t T X V P2 how HLN.out hl2 hV hcc hP).mono ?_;rw[hrest];rintro e w' ⟨ad',c',rfl,h1,h2,h3⟩;have hnT:¬(Value.slice wa ln wk).ownBlock=some T:=fun e=>by have:=(how.lt T e).1;omega
    exact⟨ad',c',rfl,(h2.cell (p:=⟨T,1,none⟩) hTX hnT).trans c1,(World.frozen?_of_block (a:=⟨T,1,none⟩) (h2.block T hTX hnT)).trans (HT4.out.thaw 1),zdW.start HT.out HT4.out HTU4.out HF4.out h2 h1 h3⟩
   have HKC:Hid (∀V,Below X.heap.size X V->V.cell? ⟨T,1,none⟩=some (.slice wa ln wk)):=fun V hV=>by have:=(HT4.out.below hV).c1;simpa using this
   clear hrest;go_wp2_with fail
   go_region_held3 (fun w'=>w'.cell? ⟨T,1,none⟩=some (.slice wa ln wk)) (first | exact kd0 | exact ke0 | exact c1) (first | (go_at_call 225;refine HOF.out.mono ?_;rintro e w5 ⟨P2,rfl,hc2,hb2,hP2⟩;have ke0:=HKC.out w5 hb2) | (go_at_call 257;refine(HDF.out _ _ hb2 hc2 hP2).mono ?_;rintro e w6 ⟨ad6,c6,rfl,kd0,kd1,hfr6⟩;have HFR:=zdY hfr6;clear hfr6))
   clear hb2 hc2 hP2 ke0 c1 HOF HDF HKC HT4 HTU4 HF4;go_wp2_with fail
   go_loopw [7,9,36] (fun v7 _ v36 wr=>∃(k:Nat) (hvk wvk:Value),k<=rest.length/\v36=.int .i64 k/\zdW w wr 267 T 0 cs (.slice ad n1 c) (.slice wad ln wq) (.slice ad6 rest.length c6) rest (grants ((withoutL s.1 t,[]),[]) (rest.take k)) hvk wvk v7) (fun _ _ v36 _=>rest.length-(intOf v36).toNat)
   case atStart=>exact⟨0,_,_,Nat.zero_le _,rfl,HFR.out⟩
   case round =>
    obtain⟨k,hvk,wvk,hk,rfl,hfr⟩:=hrel;have hgl:=zjh (rest.take k) ((withoutL s.1 t,[]),[]);have hw1:(withoutL s.1 t).length<=n1:=by have h1:(withoutL s.1 t).length<=s.1.length:=List.length_filter_le _ _;rw[HN1.out]at h1;exact h1
    have htk:(rest.take k).length<=k:=List.length_take_le _ _;have hlk:=zlx (rest.take k) ((withoutL s.1 t,[]),[]) (fun y hy=>HOK.out.1 y (List.mem_filter.1 hy).1) (fun y hy=>by cases hy) (fun y hy=>HRO.out y (List.mem_of_mem_take hy));have hrl:=HRL.out;obtain⟨st,hst⟩:∃st,grants ((withoutL s.1 t,[]),[]) (rest.take k)=st:=⟨_,rfl⟩;have HSTK:Hid (grants ((withoutL s.1 t,[]),[]) (rest.take k)=st):=hst;rw[hst]at hfr hgl hlk;simp only[List.length_nil]at hgl;have HGL:Hid (st.1.1.length<=800/\st.1.2.length<=400/\st.2.length<=400):=⟨by omega,by omega,by omega⟩;have HLKS:=zdY hlk;clear hst hgl hw1 htk hlk;obtain⟨oak,ock,eov,-⟩:=zad hfr.out;obtain⟨no,hno⟩:∃n,st.2.length=n:=⟨_,rfl⟩;have HNO:Hid (st.2.length=no):=hno;rw[hno]at eov;subst eov;have HFK:Hid (zdW w wr 267 T 0 cs (.slice ad n1 c) (.slice wad ln wq) (.slice ad6 rest.length c6) rest st hvk wvk (.slice oak no ock)):=hfr;clear hfr hno;by_cases hlt:k<rest.length
    ·have hlt':(k:Int)<(rest.length:Int):=by omega
     obtain⟨g,c2,hv2,-,hgl,-,e0,e1,e2⟩:=zdj HFK.out.row rfl hlt;simp only[Value.slice.injEq]at hv2;obtain⟨rfl,-,rfl⟩:=hv2;obtain⟨⟨t2,i2,m2⟩,ho⟩:∃o:Op3,opAt rest k=o:=⟨_,rfl⟩;have HO:Hid (opAt rest k=(t2,i2,m2)):=ho;have HLX:Hid (zak (t2,i2,m2)=true):=by show zak _=true;rw[<-ho];exact HRO.out _ (zal hlt)
     rw[ho]at e0 e1 e2;simp only at e0 e1 e2;clear ho
     go_upto_region 10 with(fail)
     obtain⟨W,hW⟩:∃W,W=wr.alloc (.cells #[.int .i64 t2,.int .i64 i2,.int .i64 m2] 269):=⟨_,rfl⟩;rw[<-hW];have hLW:za0 W wr.heap.size (t2,i2,m2):=by rw[hW];exact zbP _ _ _ _ _
     have hbW:Below wr.heap.size wr W:=by rw[hW];exact(Below.refl _ wr).alloc (Nat.le_refl _) _
     have HFW:Hid (zdW w W 267 T 0 cs (.slice ad n1 c) (.slice wad ln wq) (.slice (some ⟨g,0,none⟩) rest.length c6) rest st hvk wvk (.slice oak no ock)):=HFK.out.below hbW;have hPW:wr.heap.size<W.heap.size:=hLW.lt;obtain⟨P,hP⟩:∃P,P=wr.heap.size:=⟨_,rfl⟩;have HFP:Hid (∀j,zfX T hvk wvk j->j<P):=fun j hj=>by rw[hP];exact(HFK.out.tab.foot_lt hj).2
     rw[<-hP]at hLW hPW ⊢;have HLW:=zdY hLW;obtain⟨p0,p1,p2⟩:=hLW;simp only at p0 p1 p2;clear hW hbW hP e0 e1 e2 hgl HFK;go_wp2_with fail;refine(take_any T (put2 cs 0 hvk wvk) hvk wvk st.1 (t2,i2,m2) W HFW.out.tab (by have:=HGL.out.1;omega) (by have:=HGL.out.2.1;omega) HLKS.out.1 HLKS.out.2 HLX.out).mono ?_;rintro e w7 ⟨rfl,hst7⟩;have htu7:zac (zfX T hvk wvk) W w7:=by obtain⟨_,_,_,h1,_⟩:=hst7;exact h1
     have q0:=(htu7.cell (p:=⟨P,0,none⟩) hPW (fun hj=>absurd (HFP.out P hj) (by omega))).trans p0;have q1:=(htu7.cell (p:=⟨P,1,none⟩) hPW (fun hj=>absurd (HFP.out P hj) (by omega))).trans p1;have q2:=(htu7.cell (p:=⟨P,2,none⟩) hPW (fun hj=>absurd (HFP.out P hj) (by omega))).trans p2;obtain⟨hv7,wv7,hf7⟩:=HFW.out.step hst7;have HF7:Hid (zdW w w7 267 T 0 cs (.slice ad n1 c) (.slice wad ln wq) (.slice (some ⟨g,0,none⟩) rest.length c6) rest ((zcp st.1 (t2,i2,m2)).2,st.2) hv7 wv7 (.slice oak no ock)):=hf7;have HNX0:Hid (grants ((withoutL s.1 t,[]),[]) (rest.take (k+1))=((zcp st.1 (t2,i2,m2)).2,if(zcp st.1 (t2,i2,m2)).1=true then st.2++[(t2,i2,m2)]else st.2)):=by show grants _ _=_;rw[zmX hlt,HSTK.out,HO.out];exact zpX st.1 st.2 _
     obtain⟨s7,hs7⟩:∃s7,(zcp st.1 (t2,i2,m2)).2=s7:=⟨_,rfl⟩;obtain⟨b7,hb7⟩:∃b7,(zcp st.1 (t2,i2,m2)).1=b7:=⟨_,rfl⟩;rw[hs7]at HF7 HNX0;rw[hb7]at HNX0 ⊢;have hs7w:w.heap.size<=w7.heap.size:=hf7.turn.size;clear hs7 hb7 hst7 htu7 hf7 p0 p1 p2 HFW HFP HLW hPW;cases b7 with
     | false =>
       have HNX:Hid (grants ((withoutL s.1 t,[]),[]) (rest.take (k+1))=(s7,st.2)):=HNX0.out;clear HNX0;go_wp2_with fail;go_roundw
       case rel=>exact⟨k+1,hv7,wv7,by omega,by go_num,by rw[HNX.out];exact HF7.out⟩
       case measure=>simp[intOf];omega
     | true =>
       have HNX:Hid (grants ((withoutL s.1 t,[]),[]) (rest.take (k+1))=(s7,st.2++[(t2,i2,m2)])):=HNX0.out;have HOO:Hid (w7.ownsRow w.heap.size 269 3 (.slice oak no ock) no (flat st.2)):=by show World.ownsRow _ _ _ _ _ _ _;have:=HF7.out.out;rw[show(s7,st.2).2.length=no from HNO.out]at this;exact this
       have hno4:no<=400:=by have:=HGL.out.2.2;have:=HNO.out;omega
       clear HNX0;go_wp2_with (at_builtin;refine zbj _ rfl (.tmp 43) (.tmp 45) 265 rfl w.heap.size 269 i0 (.agg #[.int .i64 0,.int .i64 0,.int .i64 0]) 3 24 Tryz.underlying265 HI.out.1 HI.out.2.1 HI.out.2.2.1 HI.out.2.2.2 rfl (by decide) (.slice oak no ock) no (flat st.2) rfl (HOO.out.alloc _) ⟨w7.heap.size,0,none⟩ 1 1 (flat [(t2,i2,m2)]) rfl rfl (zeF w7 (t2,i2,m2) _) (zba _) (by unfold maxLen;omega) (by omega) (by simp;omega) ?_;intro v8 w8 hown8 hgr8 hap8);have htu8:zac (fun j=>(Value.slice oak no ock).ownBlock=some j) w7 w8:=((zac.refl _ w7).alloc _).grown hgr8 fun _ hk=>.inl hk
       have hf8:=HF7.out.more (ol:=st.2++[(t2,i2,m2)]) htu8 (by rw[List.length_append,HNO.out,zaP];exact hown8) fun q hq=>by
        rcases hap8 q hq with h1 | h1
        ·exact .inl h1
        ·exact .inr (by simp at h1;omega)
       go_roundw
       case rel=>exact⟨k+1,hv7,wv7,by omega,by go_num,by rw[HNX.out];exact hf8⟩
       case measure=>simp[intOf];omega
    ·have hlt':¬(k:Int)<(rest.length:Int):=by omega
     obtain rfl:k=rest.length:=by omega
     have HEND:Hid (freeT s t=st):=by show freeT s t=st;rw[HGR.out,<-HSTK.out,List.take_length]
     go_wp2_with fail;go_ret2;rw[HFU.out,HEND.out];exact⟨_,rfl,HFK.out.out,hvk,wvk,HFK.out.so,HFK.out.tab,HFK.out.turn,HFK.out.feet⟩
 ·have hd':decide (1<=t/\t<=6)=false:=decide_eq_false hd;have HFU:Hid (zdp s t=(([],1),s)):=by show zdp _ _=_;unfold zdp;rw[if_neg hd]
  rw[hd'];clear hd hd';go_wp2_with fail;go_ret2;rw[HFU.out];exact⟨_,rfl,World.ownsRow_nil _ _ _ _,_,_,fun g hg=>by simp[Value.ownBlock]at hg,by rw[HT.out.put];exact HT.out,zac.refl _ _,fun _ hk=>.inl hk⟩
end Go.Proofs.YthlhgiihngcobaaGreatDoor
namespace Go.Proofs.YthlhgiihngcobaaGreatDoor
open Go.RowKit
def zfe(w:World)(base:Nat)(e:TypeId)(size:Nat)(v:Value)(n:Nat)(xs:List Value):Prop :=xs.length=n*size/\((v=.slice none 0 0/\n=0)\/∃g off cap cur,v=.slice (some ⟨g,off,none⟩) n cap/\base<=g/\w.heap[g]? = some (.cells cur e (0,0))/\n<=cap/\off+cap*size<=cur.size/\∀j u,xs[j]? = some u->w.cell? ⟨g,off+j,none⟩=some u)
theorem zpM(w:World)(base:Nat)(e:TypeId)(size:Nat):zfe w base e size (.slice none 0 0) 0 []:=⟨by simp,.inl ⟨rfl,rfl⟩⟩
theorem zie{w:World}{base e size n:Nat}{v:Value}{xs:List Value}(h:w.ownsRow base e size v n xs):zfe w base e size v n xs:=by
 have h':=h;obtain⟨hl,hd | ⟨g,cap,cur,hv,hbg,hg,hn,hm,hsz,htk⟩⟩:=h
 ·exact⟨hl,.inl hd⟩
 ·refine⟨hl,.inr ⟨g,0,cap,cur,hv,hbg,hg,hn,by omega,fun j u hj=>?_⟩⟩;have:=h'.cells (g:=g) (by rw[hv];rfl) j u hj;rw[Addr.add_lit]at this;exact this
theorem zfe.lt{w:World}{base e size n:Nat}{v:Value}{xs:List Value}(h:zfe w base e size v n xs):∀k,v.ownBlock=some k->base<=k/\k<w.heap.size:=by
 intro k hk;obtain⟨_,⟨hv,_⟩ | ⟨g,off,cap,cur,hv,hbg,hg,_⟩⟩:=h
 ·rw[hv]at hk;simp[Value.ownBlock]at hk
 ·rw[hv]at hk;simp only[Value.ownBlock,Option.some.injEq]at hk;subst hk;exact⟨hbg,(Array.getElem?_eq_some_iff.1 hg).1⟩
theorem zfe.less{w:World}{base base2 e size n:Nat}{v:Value}{xs:List Value}(h:zfe w base e size v n xs)(hb:base2<=base):zfe w base2 e size v n xs:=by
 obtain⟨hl,hd | ⟨g,off,cap,cur,hv,hbg,h1⟩⟩:=h
 ·exact⟨hl,.inl hd⟩
 ·exact⟨hl,.inr ⟨g,off,cap,cur,hv,Nat.le_trans hb hbg,h1⟩⟩
theorem zfe.same{w w1:World}{base e size n:Nat}{v:Value}{xs:List Value}(h:zfe w base e size v n xs)(hb:∀g,v.ownBlock=some g->w1.heap[g]? = w.heap[g]?):zfe w1 base e size v n xs:=by
 obtain⟨hl,hd | ⟨g,off,cap,cur,hv,hbg,hg,hn,hsz,hc⟩⟩:=h
 ·exact⟨hl,.inl hd⟩
 ·have he:=hb g (by rw[hv];rfl);exact⟨hl,.inr ⟨g,off,cap,cur,hv,hbg,he.trans hg,hn,hsz,fun j u hj=>(World.cell?_of_block (a:=⟨g,off+j,none⟩) he).trans (hc j u hj)⟩⟩
theorem zeW(b:Nat):∀(vs:List Value) (o:Nat) (w:World) (cur:Array Value) (e:TypeId),w.heap[b]? = some (.cells cur e (0,0))->∃cur',(w.setCells b o vs).heap[b]? = some (.cells cur' e (0,0))/\cur'.size=cur.size
 | [],_,_,cur,_,h=>⟨cur,h,rfl⟩
 | v::r,o,w,cur,e,h=>by obtain⟨cur',h1,h2⟩:=zeW b r (o+1) (w.setCell ⟨b,o,none⟩ v) (cur.setIfInBounds o v) e (by unfold World.setCell;simp[Array.getElem?_modify,h]);exact⟨cur',h1,by simpa using h2⟩
theorem zeY(b:Nat):∀(vs:List Value) (o:Nat) (w:World),w.grownBy (w.setCells b o vs) (some b)
 | [],_,w=>⟨rfl,rfl,rfl,Nat.le_refl _,fun _ _ _=>rfl⟩
 | v::r,o,w=>by
   have h:=zeY b r (o+1) (w.setCell ⟨b,o,none⟩ v);refine⟨h.os,h.tape,h.output,?_,fun k hk hne=>?_⟩
   ·have h2:=h.size;have h3:(w.setCell ⟨b,o,none⟩ v).heap.size=w.heap.size:=by simp
    show w.heap.size<=((w.setCell ⟨b,o,none⟩ v).setCells b (o+1) r).heap.size;omega
   ·exact(h.block k (by simpa using hk) hne).trans (Below.heap_setCell w ⟨b,o,none⟩ v k (fun e=>hne (by rw[e])))
theorem zh7{P:Program}(w:World)(base:Nat)(t ty e:TypeId)(i:TypeInfo)(z:Value)(size bytes:Nat)(ht:P.underlying t=some (.slice e))(hi:P.info? e=some i)(hz:i.zero=some z)
  (hsize:i.size=size) (hby:i.bytes=bytes) (hzs:z.cells.size=size) (hsz:0<size)
  (v:Value) (n:Nat) (xs:List Value) (hown:zfe w base e size v n xs)
  (a:Addr) (m c:Nat) (news:List Value) (hl:news.length=m*size) (hnews:∀j u,news[j]? = some u->w.cell? (a.add j)=some u) (h1:∀u∈news,u.oneCell'=true)
  (h63:n+m<=maxLen) (hbytes:(n+m)*bytes<=140737488355328) (hbase:base<=w.heap.size) :
  ∃ v' w',(Builtin.append_ #[t,t] ty #[v,.slice (some a) m c]).run P w=.ok v' w'/\zfe w' base e size v' (n+m) (xs++news)/\w.grownBy w' v.ownBlock /\
    ∀g,v'.ownBlock=some g->v.ownBlock=some g\/w.heap.size<=g:=by
 have hown':=hown;obtain⟨hxl,⟨rfl,rfl⟩ | ⟨g,off,cap,cur,rfl,hbg,hg,hnc,hcs,hcell⟩⟩:=hown
 ·have hx:xs=[]:=List.eq_nil_of_length_eq_zero (by simpa using hxl);subst hx;obtain⟨v',w',hr,ho,hgr,-⟩:=run_append_own (P:=P) w w.heap.size t ty e i z size bytes ht hi hz hsize hby hzs hsz (.slice none 0 0) 0 [] (World.ownsRow_nil w _ e size) a m c news hl hnews h1 h63 hbytes (Nat.le_refl _);exact⟨v',w',hr,(zie ho).less hbase,hgr,fun g hg=>.inr (ho.lt g hg).1⟩
 ·by_cases hroom:n+m<=cap
  ·subst hsize;have hfit:n*i.size+news.length<=cap*i.size:=by rw[hl,<-Nat.add_mul];exact Nat.mul_le_mul_right _ hroom
   have hcells:∀j,j<news.length->(w.cell? ⟨g,off+n*i.size+j,none⟩).isSome=true:=fun j hj=>by rw[cell_of_row w g _ _ _ _ hg,Array.getElem?_eq_getElem (by omega)];rfl
   have hr:=run_append_room_cells (P:=P) w t ty e i ht hi g off n cap a m c news hl hnews h1 hroom hcells (fun j _=>by simp[World.frozen?,hg]);obtain⟨cur',hg',hsz'⟩:=zeW g news (off+n*i.size) w cur e hg;refine⟨_,_,hr,⟨by rw[List.length_append,hxl,hl,Nat.add_mul],.inr ⟨g,off,cap,cur',rfl,hbg,hg',hroom,by omega,fun j u hj=>?_⟩⟩,zeY g news _ w,fun q hq=>.inl (by simpa[Value.ownBlock]using hq)⟩;rcases Nat.lt_or_ge j xs.length with hjx | hjx
   ·rw[List.getElem?_append_left hjx]at hj;rw[World.cell?_setCells_out g news _ w _ (fun _ _=>.inl (by simp;omega))];exact hcell j u hj
   ·rw[List.getElem?_append_right hjx]at hj;have hjn:=(List.getElem?_eq_some_iff.1 hj);obtain⟨hjl,hju⟩:=hjn;have:=World.cell?_setCells_in g news (off+n*i.size) w hcells (j-xs.length) hjl;rw[show off+n*i.size+(j-xs.length)=off+j by omega,hju]at this;exact this
  ·obtain⟨v',w',hr,ho,hgr⟩:=run_append_arg_grows (P:=P) w t ty e i z size bytes ht hi hz hsize hby hzs hsz ⟨g,off,none⟩ n cap xs hxl (fun j u hj=>by rw[Addr.add_lit];exact hcell j u hj) a m c news hl hnews (by omega) h63 hbytes;exact⟨v',w',hr,(zie ho).less hbase,⟨hgr.os,hgr.tape,hgr.output,hgr.size,fun k hk _=>hgr.block k hk (by simp)⟩,fun q hq=>.inr (ho.lt q hq).1⟩
theorem zg7{P:Program}{ops:Array Oper}{o:Oper}{a:Act}{w:World}{K:Act->World->Prop}{Q:Exit->Act->World->Prop}{E:Prop}
  (hgd:o.guard=none) (s x:Operand) (t:TypeId) (ho:o.op=.call { callee:=.builtin .append,args:=#[s,x],argTypes:=#[t,t] })
  (base:Nat) (e:TypeId) (i:TypeInfo) (z:Value) (size bytes:Nat) (ht:P.underlying t=some (.slice e)) (hi:P.info? e=some i) (hz:i.zero=some z)
  (hsize:i.size=size) (hby:i.bytes=bytes) (hzs:z.cells.size=size) (hsz:0<size)
  (v:Value) (n:Nat) (xs:List Value) (hs:a.eval s=v) (hown:zfe w base e size v n xs)
  (ad:Addr) (m c:Nat) (news:List Value) (hx:a.eval x=.slice (some ad) m c) (hl:news.length=m*size) (hnews:∀j u,news[j]? = some u->w.cell? (ad.add j)=some u) (h1:∀u∈news,u.oneCell'=true)
  (h63:n+m<=maxLen) (hbytes:(n+m)*bytes<=140737488355328) (hbase:base<=w.heap.size)
  (h:∀v' w',zfe w' base e size v' (n+m) (xs++news)->w.grownBy w' v.ownBlock->(∀g,v'.ownBlock=some g->v.ownBlock=some g\/w.heap.size<=g)->K (a.put o.dst v') w') :
  if Region.wanted o (yielded ops a.tmps)=true then Oper.wp P o a w K Q else E:=by
 have hw:Region.wanted o (yielded ops a.tmps)=true:=by simp[Region.wanted,hgd]
 rw[if_pos hw];obtain⟨v',w',hr,h2,h3,h4⟩:=zh7 (P:=P) w base t o.type e i z size bytes ht hi hz hsize hby hzs hsz v n xs hown ad m c news hl hnews h1 h63 hbytes hbase;unfold Oper.wp execOp;simp only[ho,resolve,invoke,builtin,Sem.run_bind,Sem.run_pure,Result.andThen_ok,List.map_toArray,List.map_cons,List.map_nil,hs,hx,hr];exact h v' w' h2 h3 h4
theorem zfe.pop{w:World}{base e size n g off cap:Nat}{xs:List Value}(h:zfe w base e size (.slice (some ⟨g,off,none⟩) (n+1) cap) (n+1) xs)(ad:Addr)(ha:ad=⟨g,off+size,none⟩\/(cap=1/\ad=⟨g,off,none⟩)):zfe w base e size (.slice (some ad) n (cap-1)) n (xs.drop size):=by
 obtain⟨hxl,⟨hv,_⟩ | ⟨g2,off2,cap2,cur,hv,hbg,hg,hnc,hcs,hcell⟩⟩:=h
 ·cases hv
 ·simp only[Value.slice.injEq,Option.some.injEq,Addr.mk.injEq,and_true,true_and]at hv;obtain⟨⟨rfl,rfl⟩,rfl⟩:=hv;refine⟨by rw[List.length_drop,hxl,Nat.add_mul];omega,.inr ?_⟩
  have hcap:(cap-1)*size+size=cap*size:=by
   have:cap=(cap-1)+1:=by omega
   rw[this];simp[Nat.add_mul]
  rcases ha with rfl | ⟨rfl,rfl⟩
  ·refine⟨g,off+size,cap-1,cur,rfl,hbg,hg,by omega,by omega,fun j u hj=>?_⟩;rw[List.getElem?_drop]at hj;rw[Nat.add_assoc];exact hcell _ u hj
  ·obtain rfl:n=0:=by omega
   refine⟨g,off,0,cur,rfl,hbg,hg,Nat.le_refl _,by simp at hcs ⊢;omega,fun j u hj=>?_⟩;rw[List.getElem?_drop,List.getElem?_eq_none (by omega)]at hj;cases hj
end Go.Proofs.YthlhgiihngcobaaGreatDoor
namespace Go.Proofs.YthlhgiihngcobaaGreatDoor
open Go.RowKit
structure Lay where
 T:Nat
 A:Nat
 W:Nat
 B:Nat
 F:Nat->Prop
 tv:Value
 h:Int->Option Value
def Lay.bv(c:Lay)(d:Int):Value:=(c.h d).getD (.slice none 0 0)
def zfD(R:Nat)(c:Lay)(i k:Nat):Prop :=
 match i with
 | 0=>k=R
 | 1=>c.F k
 | 2=>c.tv.ownBlock=some k
 | 3=>k=c.A
 | 4=>k=c.W
 | 5=>k=c.B
 | d+6=>(c.bv (d:Int)).ownBlock=some k
def feet(R:Nat)(c:Lay)(k:Nat):Prop:=∃i,i<13/\zfD R c i k
def zej(way:Int)(c:Lay):Array Value:=#[.int .i64 way,.pointer (some ⟨c.T,0,none⟩),c.tv,.map (some c.A),.map (some c.W),.map (some c.B)]
structure zah(w:World)(R:Nat)(way:Int)(r:zat)(g:Int->Option Value)(c:Lay):Prop where
 blk:w.heap[R]? = some (.cells (zej way c) 152 (0,0))
 tab:zrw w c.T c.F r.tab
 told:w.ownsRow 0 103 3 c.tv r.told.length (flat r.told)
 outs:zax w c.A (zbt r.vict) r.vict.length
 wts:∃m,zax w c.W g m
 beh:∃m,zax w c.B c.h m
 rows:∀d:Nat,d<7->zfe w 0 103 3 (c.bv (d:Int)) (r.behind (d:Int)).length (flat (r.behind (d:Int)))
 apart:∀i j k,i<13->j<13->i≠j->zfD R c i k->zfD R c j k->False
def ofs(R:Nat)(c:Lay)(J:Nat->Prop)(k:Nat):Prop:=∃i,i<13/\J i/\zfD R c i k
section
variable {w w1:World} {R:Nat} {way:Int} {r r1:zat} {g g1:Int->Option Value} {c c1:Lay} {F J:Nat->Prop}
theorem zah.part_lt(h:zah w R way r g c):∀i k,i<13->zfD R c i k->k<w.heap.size:=by
 intro i k hi hk
 match i,hk with
 | 0,hk=>rw[show k=R from hk];exact(Array.getElem?_eq_some_iff.1 h.blk).1
 | 1,hk=>exact locksQ.lt h.tab k hk
 | 2,hk=>exact(h.told.lt k hk).2
 | 3,hk=>rw[show k=c.A from hk];exact h.outs.lt
 | 4,hk=>rw[show k=c.W from hk];exact h.wts.elim fun _ h=>h.lt
 | 5,hk=>rw[show k=c.B from hk];exact h.beh.elim fun _ h=>h.lt
 | d+6,hk=>exact((h.rows d (by omega)).lt k hk).2
theorem zah.lt(h:zah w R way r g c):R<w.heap.size:=h.part_lt 0 R (by omega) rfl
theorem zah.feet_lt(h:zah w R way r g c){k:Nat}(hk:feet R c k):k<w.heap.size:=by obtain⟨i,hi,hk⟩:=hk;exact h.part_lt i k hi hk
theorem zah.keep(h:zah w R way r g c){i:Nat}(hi:i<13)(hj:¬J i):∀k,zfD R c i k->¬ofs R c J k:=fun k hk ⟨j,hj1,hj2,hj3⟩=>h.apart i j k hi hj1 (fun e=>hj (e ▸hj2)) hk hj3
theorem zah.blkT(h:zah w R way r g c)(ht:zac F w w1)(hF:∀k,zfD R c 0 k->¬F k):w1.heap[R]? = some (.cells (zej way c) 152 (0,0)):=(ht.block R h.lt (hF R rfl)).trans h.blk
theorem zah.tabT(h:zah w R way r g c)(ht:zac F w w1)(hF:∀k,zfD R c 1 k->¬F k):zrw w1 c.T c.F r.tab:=locksQ.stays _ h.tab ht fun k hk=>hF k hk
theorem zah.toldT(h:zah w R way r g c)(ht:zac F w w1)(hF:∀k,zfD R c 2 k->¬F k):w1.ownsRow 0 103 3 c.tv r.told.length (flat r.told):=ht.own h.told fun k hk=>hF k hk
theorem zah.outsT(h:zah w R way r g c)(ht:zac F w w1)(hF:∀k,zfD R c 3 k->¬F k):zax w1 c.A (zbt r.vict) r.vict.length:=h.outs.turn ht (hF _ rfl)
theorem zah.wtsT(h:zah w R way r g c)(ht:zac F w w1)(hF:∀k,zfD R c 4 k->¬F k):∃m,zax w1 c.W g m:=h.wts.elim fun m h1=>⟨m,h1.turn ht (hF _ rfl)⟩
theorem zah.behT(h:zah w R way r g c)(ht:zac F w w1)(hF:∀k,zfD R c 5 k->¬F k):∃m,zax w1 c.B c.h m:=h.beh.elim fun m h1=>⟨m,h1.turn ht (hF _ rfl)⟩
theorem zah.rowsT(h:zah w R way r g c)(ht:zac F w w1){d:Nat}(hd:d<7)(hF:∀k,zfD R c (d+6) k->¬F k):zfe w1 0 103 3 (c.bv (d:Int)) (r.behind (d:Int)).length (flat (r.behind (d:Int))) :=(h.rows d hd).same fun k hk=>ht.block k ((h.rows d hd).lt k hk).2 (hF k hk)
theorem zah.turn(h:zah w R way r g c)(ht:zac F w w1)(hF:∀k,feet R c k->¬F k):zah w1 R way r g c :=
 have hp:∀i,i<13->∀k,zfD R c i k->¬F k:=fun i hi k hk=>hF k ⟨i,hi,hk⟩
 ⟨h.blkT ht (hp 0 (by omega)),h.tabT ht (hp 1 (by omega)),h.toldT ht (hp 2 (by omega)),h.outsT ht (hp 3 (by omega)),h.wtsT ht (hp 4 (by omega)),h.behT ht (hp 5 (by omega)),fun d hd=>h.rowsT ht hd (hp (d+6) (by omega)),h.apart⟩
theorem zah.below(h:zah w R way r g c)(hb:Below w.heap.size w w1):zah w1 R way r g c:=h.turn (zac.of_below (F:=fun _=>False) hb) fun _ _ hf=>hf
theorem zah.congr(h:zah w R way r g c)(e:∀d,g1 d=g d):zah w R way r g1 c:=by obtain rfl:g1=g:=funext e;exact h
def zav(w w':World)(R:Nat)(way:Int)(c:Lay)(r':zat)(g':Int->Option Value):Prop:=∃c',zah w' R way r' g' c'/\zac (feet R c) w w'/\∀k,feet R c' k->feet R c k\/w.heap.size<=k
theorem zah.change(h:zah w R way r g c)(m:Nat)(ht:zac (ofs R c J) w w1)(hsame:∀i,i<13->i≠m->∀k,zfD R c1 i k->zfD R c i k)(hm:∀k,zfD R c1 m k->zfD R c m k\/w.heap.size<=k)(hm13:m<13)
  (blk:w1.heap[R]? = some (.cells (zej way c1) 152 (0,0))) (tab:zrw w1 c1.T c1.F r1.tab) (told:w1.ownsRow 0 103 3 c1.tv r1.told.length (flat r1.told)) (outs:zax w1 c1.A (zbt r1.vict) r1.vict.length)
  (wts:∃m,zax w1 c1.W g1 m) (beh:∃m,zax w1 c1.B c1.h m) (rows:∀d:Nat,d<7->zfe w1 0 103 3 (c1.bv (d:Int)) (r1.behind (d:Int)).length (flat (r1.behind (d:Int)))):zav w w1 R way c r1 g1:=by
 have hp:∀i k,i<13->zfD R c1 i k->zfD R c i k\/(i=m/\w.heap.size<=k):=fun i k hi hk=>by
  by_cases e:i=m
  ·subst e;rcases hm k hk with h1 | h1
   ·exact .inl h1
   ·exact .inr ⟨rfl,h1⟩
  ·exact .inl (hsame i hi e k hk)
 refine⟨c1,⟨blk,tab,told,outs,wts,beh,rows,fun i j k hi hj hij h1 h2=>?_⟩,ht.mono fun k _ ⟨i,hi,_,hk⟩=>⟨i,hi,hk⟩,fun k ⟨i,hi,hk⟩=>?_⟩
 ·rcases hp i k hi h1 with h3 | ⟨h3,h4⟩
  ·rcases hp j k hj h2 with h5 | ⟨h5,h6⟩
   ·exact h.apart i j k hi hj hij h3 h5
   ·have:=h.part_lt i k hi h3;omega
  ·rcases hp j k hj h2 with h5 | ⟨h5,h6⟩
   ·have:=h.part_lt j k hj h5;omega
   ·exact hij (h3.trans h5.symm)
 ·rcases hp i k hi hk with h3 | ⟨_,h3⟩
  ·exact .inl ⟨i,hi,h3⟩
  ·exact .inr h3
theorem zav.trans{w2:World}{r2:zat}{g2:Int->Option Value}(ht:zac (feet R c) w w1)(hf:∀k,feet R c1 k->feet R c k\/w.heap.size<=k)(h2:zav w1 w2 R way c1 r2 g2):zav w w2 R way c r2 g2:=by
 obtain⟨c2,h3,h4,h5⟩:=h2;refine⟨c2,h3,ht.trans h4 fun k hk hk2=>?_,fun k hk=>?_⟩
 ·rcases hf k hk2 with h | h
  ·exact h
  ·omega
 ·rcases h5 k hk with h | h
  ·exact hf k h
  ·exact .inr (Nat.le_trans ht.size h)
theorem zav.later{w2:World}{r2:zat}{g2:Int->Option Value}(hb:Below w.heap.size w w1)(h2:zav w1 w2 R way c r2 g2):zav w w2 R way c r2 g2:=zav.trans (zac.of_below hb) (fun _ hk=>.inl hk) h2
theorem zw9{i:Nat}(hi:i<13)(h:zac (fun k=>zfD R c i k) w w1)(u:Value)(q:Nat):zac (ofs R c fun j=>j=0\/j=i) w (w1.setCell ⟨R,q,none⟩ u) :=(h.mono fun k _ hk=>⟨i,hi,.inr rfl,hk⟩).setCell (.inl ⟨0,by omega,.inl rfl,rfl⟩) u
theorem zha{i:Nat}(hi:i<13)(h:zac (fun k=>zfD R c i k) w w1):zac (ofs R c fun j=>j=i) w w1:=h.mono fun _ _ hk=>⟨i,hi,rfl,hk⟩
theorem zah.pushTold{v:Value}{x:Op3}(h:zah w R way r g c)(ht:zac (fun k=>c.tv.ownBlock=some k) w w1)(hv:w1.ownsRow 0 103 3 v (r.told.length+1) (flat r.told++flat [x]))(hap:∀q,v.ownBlock=some q->c.tv.ownBlock=some q\/w.heap.size<=q):w1.cell? ⟨R,2,none⟩=some c.tv/\w1.frozen? ⟨R,2,none⟩=false/\zav w (w1.setCell ⟨R,2,none⟩ v) R way c { r with told:=r.told++[x] } g:=by
 have hn:¬c.tv.ownBlock=some R:=fun e=>h.apart 0 2 R (by omega) (by omega) (by decide) rfl e;have hb1:w1.heap[R]? = some (.cells (zej way c) 152 (0,0)):=(ht.block R h.lt hn).trans h.blk;refine⟨by rw[cell_of_row w1 R _ _ _ _ hb1];rfl,by simp[World.frozen?,hb1],?_⟩;have ht2:zac (ofs R c fun j=>j=0\/j=2) w (w1.setCell ⟨R,2,none⟩ v):=zw9 (i:=2) (by omega) ht v 2
 have hR:¬v.ownBlock=some R:=fun e=>by
  rcases hap R e with h1 | h1
  ·exact hn h1
  ·have:=h.lt;omega
 refine h.change (c1:={ c with tv:=v }) 2 ht2 (fun i hi hne k hk=>?_) (fun k hk=>hap k hk) (by omega) ?_ (h.tabT ht2 (h.keep (by omega) (by omega))) ?_ (h.outsT ht2 (h.keep (by omega) (by omega))) (h.wtsT ht2 (h.keep (by omega) (by omega))) (h.behT ht2 (h.keep (by omega) (by omega))) fun d hd=>h.rowsT ht2 hd (h.keep (by omega) (by omega))
 ·match i,hne,hk with
  | 0,_,hk=>exact hk
  | 1,_,hk=>exact hk
  | 2,hne,_=>exact absurd rfl hne
  | 3,_,hk=>exact hk
  | 4,_,hk=>exact hk
  | 5,_,hk=>exact hk
  | d+6,_,hk=>exact hk
 ·rw[za9 hb1];rfl
 ·show World.ownsRow _ _ _ _ v (r.told++[x]).length (flat (r.told++[x]));rw[List.length_append,zaP];have hset:zac (fun k=>k=R) w1 (w1.setCell ⟨R,2,none⟩ v):=by refine zac.setCell (zac.refl _ w1) ?_ _;exact .inl rfl
  exact hset.own hv fun q hq e=>hR (e ▸hq)
theorem zah.setTab{F1:Nat->Prop}{s1:za3}(h:zah w R way r g c)(hp:zrw w1 c.T F1 s1)(ht:zac c.F w w1)(hf:∀k,F1 k->c.F k\/w.heap.size<=k):zav w w1 R way c { r with tab:=s1 } g:=by
 have ht2:zac (ofs R c fun j=>j=1) w w1:=zha (i:=1) (by omega) ht
 exact h.change (c1:={ c with F:=F1 }) 1 ht2 (fun i hi hne k hk=>by
  match i,hne,hk with
  | 0,_,hk=>exact hk
  | 1,hne,_=>exact absurd rfl hne
  | 2,_,hk=>exact hk
  | 3,_,hk=>exact hk
  | 4,_,hk=>exact hk
  | 5,_,hk=>exact hk
  | d+6,_,hk=>exact hk) hf (by omega) (h.blkT ht2 (h.keep (by omega) (by omega))) hp (h.toldT ht2 (h.keep (by omega) (by omega))) (h.outsT ht2 (h.keep (by omega) (by omega))) (h.wtsT ht2 (h.keep (by omega) (by omega))) (h.behT ht2 (h.keep (by omega) (by omega))) fun d hd=>h.rowsT ht2 hd (h.keep (by omega) (by omega))
theorem zah.setOuts{l:List Int}(h:zah w R way r g c)(hp:zax w1 c.A (zbt l) l.length)(ht:zac (fun k=>k=c.A) w w1):zav w w1 R way c { r with vict:=l } g:=by have ht2:zac (ofs R c fun j=>j=3) w w1:=zha (i:=3) (by omega) ht;exact h.change (c1:=c) 3 ht2 (fun i hi hne k hk=>hk) (fun k hk=>.inl hk) (by omega) (h.blkT ht2 (h.keep (by omega) (by omega))) (h.tabT ht2 (h.keep (by omega) (by omega))) (h.toldT ht2 (h.keep (by omega) (by omega))) hp (h.wtsT ht2 (h.keep (by omega) (by omega))) (h.behT ht2 (h.keep (by omega) (by omega))) fun d hd=>h.rowsT ht2 hd (h.keep (by omega) (by omega))
theorem zah.setWts{m:Nat}(h:zah w R way r g c)(hp:zax w1 c.W g1 m)(ht:zac (fun k=>k=c.W) w w1):zav w w1 R way c r g1:=by have ht2:zac (ofs R c fun j=>j=4) w w1:=zha (i:=4) (by omega) ht;exact h.change (c1:=c) 4 ht2 (fun i hi hne k hk=>hk) (fun k hk=>.inl hk) (by omega) (h.blkT ht2 (h.keep (by omega) (by omega))) (h.tabT ht2 (h.keep (by omega) (by omega))) (h.toldT ht2 (h.keep (by omega) (by omega))) (h.outsT ht2 (h.keep (by omega) (by omega))) ⟨m,hp⟩ (h.behT ht2 (h.keep (by omega) (by omega))) fun d hd=>h.rowsT ht2 hd (h.keep (by omega) (by omega))
theorem zsU(c:Lay)(d:Int)(x:Option Value):({ c with h:=setF c.h d x }:Lay).bv d=x.getD (.slice none 0 0):=by show(setF c.h d x d).getD _=_;rw[setF_same]
theorem zoU(c:Lay){d e:Int}(x:Option Value)(hne:e≠d):({ c with h:=setF c.h d x }:Lay).bv e=c.bv e:=by show(setF c.h d x e).getD _=_;rw[zaa _ _ hne];rfl
theorem zah.setBeh{w0:World}{m d:Nat}{x:Option Value}{q:List Op3}(hd:d<7)(h:zah w R way r g c)(ht0:zac (fun k=>(c.bv (d:Int)).ownBlock=some k) w w0)(hp:zax w1 c.B (setF c.h (d:Int) x) m)(ht:zac (fun k=>k=c.B) w0 w1)
  (hv:zfe w0 0 103 3 (x.getD (.slice none 0 0)) q.length (flat q)) (hap:∀k,(x.getD (.slice none 0 0)).ownBlock=some k->(c.bv (d:Int)).ownBlock=some k\/w.heap.size<=k):zav w w1 R way c { r with behind:=setF r.behind (d:Int) q } g:=by
 have ht2:zac (ofs R c fun j=>j=5\/j=d+6) w w1:=(ht0.mono fun k _ hk=>⟨d+6,by omega,.inr rfl,hk⟩).trans ht fun k _ hk=>⟨5,by omega,.inl rfl,hk⟩
 have hB:∀k,(x.getD (.slice none 0 0)).ownBlock=some k->k≠c.B:=fun k hk e=>by
  rcases hap k hk with h1 | h1
  ·exact h.apart (d+6) 5 k (by omega) (by omega) (by omega) h1 e
  ·have:=h.beh.elim fun _ h=>h.lt;omega
 refine h.change (c1:={ c with h:=setF c.h (d:Int) x }) (d+6) ht2 (fun i hi hne k hk=>?_) (fun k hk=>?_) (by omega) (h.blkT ht2 (h.keep (by omega) (by omega))) (h.tabT ht2 (h.keep (by omega) (by omega))) (h.toldT ht2 (h.keep (by omega) (by omega))) (h.outsT ht2 (h.keep (by omega) (by omega))) (h.wtsT ht2 (h.keep (by omega) (by omega))) ⟨m,hp⟩ fun e he=>?_
 ·match i,hne,hk with
  | 0,_,hk=>exact hk
  | 1,_,hk=>exact hk
  | 2,_,hk=>exact hk
  | 3,_,hk=>exact hk
  | 4,_,hk=>exact hk
  | 5,_,hk=>exact hk
  | e+6,hne,hk =>have hk':(Lay.bv { c with h:=setF c.h (d:Int) x } (e:Int)).ownBlock=some k:=hk;rw[zoU c x (by omega)]at hk';exact hk'
 ·have hk':(Lay.bv { c with h:=setF c.h (d:Int) x } (d:Int)).ownBlock=some k:=hk;rw[zsU]at hk';exact hap k hk'
 ·by_cases e1:e=d
  ·subst e1;show zfe w1 0 _ 3 _ (setF r.behind (e:Int) q (e:Int)).length (flat (setF r.behind (e:Int) q (e:Int)));rw[zsU,setF_same];exact hv.same fun k hk=>ht.block k (hv.lt k hk).2 (hB k hk)
  ·show zfe w1 0 _ 3 _ (setF r.behind (d:Int) q (e:Int)).length (flat (setF r.behind (d:Int) q (e:Int)));rw[zoU c x (by omega),zaa _ _ (by omega)];exact h.rowsT ht2 he (h.keep (by omega) (by omega))
end
section
variable {w:World} {R:Nat} {way:Int} {r:zat} {g:Int->Option Value} {c:Lay}
theorem zah.cell(h:zah w R way r g c)(k:Nat):w.cell? ⟨R,k,none⟩=(zej way c)[k]? := by rw[cell_of_row w R _ _ _ _ h.blk]
theorem zah.c0(h:zah w R way r g c):w.cell? ⟨R,0,none⟩=some (.int .i64 way):=h.cell 0
theorem zah.c1(h:zah w R way r g c):w.cell? ⟨R,1,none⟩=some (.pointer (some ⟨c.T,0,none⟩)):=h.cell 1
theorem zah.c2(h:zah w R way r g c):w.cell? ⟨R,2,none⟩=some c.tv:=h.cell 2
theorem zah.c3(h:zah w R way r g c):w.cell? ⟨R,3,none⟩=some (.map (some c.A)):=h.cell 3
theorem zah.c4(h:zah w R way r g c):w.cell? ⟨R,4,none⟩=some (.map (some c.W)):=h.cell 4
theorem zah.c5(h:zah w R way r g c):w.cell? ⟨R,5,none⟩=some (.map (some c.B)):=h.cell 5
end
theorem zuM{s:za3}(h:zgu s)(t:Int):zgu (zdp s t).2:=by
 unfold zdp;split
 ·exact zvu h t
 ·exact h
theorem ztV(w:World)(T:Nat)(F:Nat->Prop)(s:za3)(t:Int)(h:zrw w T F s)(hl1:s.1.length<=400)(hl2:s.2.length<=400):Calls Tryz.prog 220 #[.pointer (some ⟨T,0,none⟩),.int .i64 t] w fun e w'=>∃v',e=.returned (.tuple #[v',zeH (zdp s t).1.2])/\w'.ownsRow w.heap.size 269 3 v' (zdp s t).1.1.length (flat (zdp s t).1.1)/\∃F',zrw w' T F' (zdp s t).2/\zac F w w'/\(∀k,F' k->F k\/w.heap.size<=k)/\∀q,v'.ownBlock=some q->¬F' q:=by
 obtain⟨hok,hv,wv,h1,h2⟩:=h;refine(zt4 T _ hv wv s t w h1 hl1 hl2 hok.locks.1 hok.locks.2).mono fun _ _ ⟨v',he,hr,hv',wv',hso,ht,htu,hf⟩=>⟨v',he,hr,zfX T hv' wv',⟨zuM hok t,hv',wv',ht,fun _=>Iff.rfl⟩,htu.mono fun k _ hk=>(h2 k).2 hk,fun k hk=>?_,hso⟩;rcases hf k hk with h3 | h3
 ·exact .inl ((h2 k).2 h3)
 ·exact .inr h3
theorem zx3(w:World)(T:Nat)(F:Nat->Prop)(s:za3)(x:Op3)(h:zrw w T F s)(hl1:s.1.length<=400)(hl2:s.2.length<=400):Calls Tryz.prog 263 #[.pointer (some ⟨T,0,none⟩),lkV x] w fun e w'=>∃v',e=.returned (.tuple #[v',zeH (zmO s x).2])/\zgO w' w.heap.size v' (zmO s x).1/\Below w.heap.size w w':=by obtain⟨hok,hv,wv,h1,h2⟩:=h;exact zpC T _ hv wv s x w h1 (by omega) (by omega) hok.locks.1 hok.locks.2
end Go.Proofs.YthlhgiihngcobaaGreatDoor
