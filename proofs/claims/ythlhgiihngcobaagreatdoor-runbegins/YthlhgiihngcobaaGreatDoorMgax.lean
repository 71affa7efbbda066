/-
  PROVED HERE: serial.Order gives Check's error of a wrong list, ErrCycle where it goes around, else the order of all deals; odds.names gives each op of a right list with which of its deal's ops it is, in new memory; a name (an op, and which of its deal's ops it is) as a map's key; seven names in a block of memory (of each item the Write that was last), what becomes of them when one is.
  Conditions: none but those that each theorem's own premises say.
-/
import Derived.Test.YthlhgiihngcobaaGreatDoorMgau
import Derived.Test.YthlhgiihngcobaaGreatDoorMgav
import Derived.Test.YthlhgiihngcobaaGreatDoorMgaw
import Derived.Test.YthlhgiihngcobaaGreatDoorMgai
import Derived.RegionTactic
import Derived.Deep.RegionWith
import Derived.Test.YthlhgiihngcobaaGreatDoorMgag
import Derived.Test.YthlhgiihngcobaaGreatDoorMgaj
import Derived.Test.YthlhgiihngcobaaGreatDoorMgah
import Derived.Maps.OwnSet
import Derived.Maps.OwnOps
import Derived.Maps.AppendAt
import Derived.DeepKeys4
import Derived.Laws.Rows
import Derived.Laws.CopyOwn
import Derived.Deep.MidRow
set_option maxHeartbeats 32000000
set_option maxRecDepth 100000
namespace Go.Proofs.YthlhgiihngcobaaGreatDoor
open Go.RowKit
theorem zzj(l:List Op3)(v:Value)(w:World)(h:zai w v l)(hc:(chk l).2=0):Calls Tryz.prog 22 #[v] w fun e w'=>((∃o v',zcF (doneL l)=some o/\e=.returned (.tuple #[v',.nilIface])/\zaf w' v' o)\/(zcF (doneL l)=none/\e=.returned (.tuple #[.slice none 0 0,.iface 80 (.int .i64 8)])))/\Below w.heap.size w w':=by
 have hdd:=zmK l v w h hc;have hed:∀W,Below w.heap.size w W->Calls Tryz.prog 45 #[v] W fun e w'=>∃v',e=.returned (.tuple #[v',.nilIface])/\zaj w' v' (zaF (doneL l) 36)/\Below W.heap.size W w':=fun W hW=>zwQ l v W (h.below hW (Nat.le_refl _)) hc;obtain⟨d,hd⟩:∃d,doneL l=d:=⟨_,rfl⟩;rw[hd]at hdd hed ⊢;have HD:Hid (Calls Tryz.prog 44 #[v] w fun e w'=>∃u v',e=.returned (.tuple #[u,v',.nilIface])/\zai w' u d/\w'.ownsRow w.heap.size 3 1 v' (zas d).length ((zas d).map (Value.int .i64))/\Below w.heap.size w w'):=hdd;have HE:Hid (∀W,Below w.heap.size w W->Calls Tryz.prog 45 #[v] W fun e w'=>∃v',e=.returned (.tuple #[v',.nilIface])/\zaj w' v' (zaF d 36)/\Below W.heap.size W w'):=hed;have HDL:Hid ((zas d).length<=6):=zcc d 6;clear hd hdd hed h hc;go_enter Tryz.func22,Tryz.ntmps22;go_wp2_with fail;refine HD.out.mono ?_;rintro e w1 ⟨u1,v1,rfl,hI1,hown1,hb1⟩;have HO1:Hid (w1.ownsRow w.heap.size 3 1 v1 (zas d).length ((zas d).map (Value.int .i64))):=hown1;clear hI1 hown1;go_wp2_with fail;refine(HE.out w1 hb1).mono ?_;rintro e w2 ⟨v2,rfl,hE2,hb2⟩;have hb02:=hb1.trans (hb2.mono hb1.size);have HE2:Hid (zaj w2 v2 (zaF d 36)):=hE2;clear hE2;go_wp2_with fail;refine(zu1 (zaF d 36) _ _ HE2.out (zrl d 36)).mono ?_;rintro e w3 ⟨hor,hb3⟩;have hb03:=hb02.trans (hb3.mono hb02.size);rcases hor with⟨o,v3,ho,rfl,hown3,hol⟩ | ⟨ho,rfl⟩
 ·have HQ:Hid (zcF d=some (weaveL o ((zas d).filter fun x=>!inB o x))):=by show zcF d=_;unfold zcF;rw[ho];rfl
  have HO3:Hid (w3.ownsRow w2.heap.size 3 1 v3 o.length (o.map (Value.int .i64))):=hown3;have HO13:Hid (w3.ownsRow w.heap.size 3 1 v1 (zas d).length ((zas d).map (Value.int .i64))):=zhc (zhc HO1.out hb2) hb3;have HG:Hid (∀g,v1.ownBlock=some g->w.heap.size<=g/\g<w2.heap.size):=fun g hg=>by have h1:=HO1.out.lt g hg;have h2:=hb2.size;omega
  have hsz3:=hb3.size;have HB3:Hid (Below w.heap.size w w3):=hb03
  obtain⟨ad3,cap3,hv3⟩:∃ad cap,v3=.slice ad o.length cap:=by
   obtain⟨_,⟨h1,h2⟩ | ⟨g,c,cur,h1,_⟩⟩:=hown3
   ·exact⟨none,0,by rw[h1,h2]⟩
   ·exact⟨_,c,h1⟩
  obtain⟨n3,hn3⟩:∃n3,o.length=n3:=⟨_,rfl⟩;rw[hn3]at hv3 HO3 hol;have HN3:Hid (o.length=n3):=hn3;subst hv3;clear hown3 ho hb1 hb2 hb3 hb02 hb03 hn3;go_wp2_with fail;have HW:Hid (∃W:World,W=w3.alloc (.cells #[.slice ad3 n3 cap3] 24)):=⟨_,rfl⟩;obtain⟨W,hW⟩:=HW.out;clear HW;rw[<-hW]
  have HB:Hid (∀W',W.drew.grownBy W' v1.ownBlock->W'.cell? ⟨w3.heap.size,0,none⟩=some (.slice ad3 n3 cap3)/\zaf W' (.slice ad3 n3 cap3) o):=fun W' hg=>by
   refine⟨hg.cell (show W.drew.cell? ⟨w3.heap.size,0,none⟩=some (.slice ad3 n3 cap3)by rw[hW];simp) fun e=>?_,?_⟩
   ·have:=HG.out _ e.symm;simp at this;omega
   ·refine zap (World.ownsRow.kept (w:=W.drew) (by rw[hW];exact(HO3.out.alloc _).drew) hg ?_) HN3.out;cases hv:(Value.slice ad3 n3 cap3).ownBlock with
    | none=>exact .inl rfl
    | some k =>refine .inr fun e=>?_;have h1:=HG.out k e.symm;have h2:=HO3.out.lt k hv;omega
  have HOW:Hid (W.drew.ownsRow w.heap.size 3 1 v1 (zas d).length ((zas d).map (Value.int .i64))):=by rw[hW];exact(HO13.out.alloc _).drew
  have HBW:Hid (Below w.heap.size w W.drew):=by rw[hW];exact(HB3.out.alloc HB3.out.size _).drew
  have hcell:W.cell? ⟨w3.heap.size,0,none⟩=some (.slice ad3 n3 cap3):=by rw[hW];simp
  clear hW HO3 HO13
  go_region_with (first | (go_at_call 50;refine(zp0 (zas d) o v1 (.slice ad3 n3 cap3) w3.heap.size w.heap.size _ W.drew rfl (by have:=HDL.out;omega) (by have:=HN3.out;omega) HOW.out HB.out).mono ?_;rintro e w' ⟨v',rfl,hrow',hgr'⟩;have hcell':=(HB.out w' hgr').1) | (go_at_call 49;refine(zr8 o _ _ _ _ (HB.out w' hgr').2 hrow' (by have:=HN3.out;omega) (by have h1:=List.length_filter_le (fun x=>!inB o x) (zas d);have:=HDL.out;omega)).mono ?_;rintro e w'' ⟨v'',rfl,hI'',hb''⟩))
  all_goals
   go_wp2;go_ret2;have hbb:Below w.heap.size w w':=HBW.out.grown hgr' HBW.out.size (fun m hm=>(HG.out m hm).1);exact⟨.inl ⟨_,_,HQ.out,rfl,hI''⟩,hbb.trans (hb''.mono hbb.size)⟩
 ·have HQ:Hid (zcF d=none):=by show zcF d=none;unfold zcF;rw[ho];rfl
  clear ho;go_wp2_with fail;go_ret2;exact⟨.inr ⟨HQ.out,rfl⟩,hb03.alloc hb03.size _⟩
end Go.Proofs.YthlhgiihngcobaaGreatDoor
namespace Go.Proofs.YthlhgiihngcobaaGreatDoor
open Go.RowKit
abbrev Nm:=Op3 × Nat
def flatN:List Nm->List Value
 | []=>[]
 | o::r=>.int .i64 o.1.1 :: .int .i64 o.1.2.1 :: .int .i64 o.1.2.2 :: .int .i64 o.2::flatN r
theorem zmt(l m:List Nm):flatN (l++m)=flatN l++flatN m:=by
 induction l with
 | nil=>rfl
 | cons o r ih=>simp[flatN,ih]
theorem zur(l:List Nm):∀u∈flatN l,u.oneCell'=true:=by
 induction l with
 | nil=>intro u hu;cases hu
 | cons o r ih =>
   intro u hu;simp only[flatN,List.mem_cons]at hu;rcases hu with rfl | rfl | rfl | rfl | hu
   ·rfl
   ·rfl
   ·rfl
   ·rfl
   ·exact ih u hu
def zn8(l:List Nm)(i:Nat):Nm:=l.getD i ((0,0,0),0)
theorem zv6(l:List Nm):∀i,i<l.length->(flatN l)[i*4]? = some (.int .i64 (zn8 l i).1.1)/\(flatN l)[i*4+1]? = some (.int .i64 (zn8 l i).1.2.1)/\(flatN l)[i*4+2]? = some (.int .i64 (zn8 l i).1.2.2)/\(flatN l)[i*4+3]? = some (.int .i64 (zn8 l i).2):=by
 induction l with
 | nil=>intro i hi;cases hi
 | cons o r ih =>
   intro i hi;cases i with
   | zero=>exact⟨rfl,rfl,rfl,rfl⟩
   | succ i =>have:=ih i (by simpa using hi);rw[show(i+1)*4=i*4+4 by omega];simpa[flatN,zn8]using this
def zkn(w:World)(b off:Nat)(l:List Nm):Prop :=∀i,i<l.length->w.cell? ⟨b,off+i*4,none⟩=some (.int .i64 (zn8 l i).1.1)/\w.cell? ⟨b,off+i*4+1,none⟩=some (.int .i64 (zn8 l i).1.2.1)/\w.cell? ⟨b,off+i*4+2,none⟩=some (.int .i64 (zn8 l i).1.2.2)/\w.cell? ⟨b,off+i*4+3,none⟩=some (.int .i64 (zn8 l i).2)
theorem zkn.below{w w1:World}{b off B:Nat}{l:List Nm}(h:zkn w b off l)(hb:Below B w w1)(hB:b<B\/l=[]):zkn w1 b off l:=by
 intro i hi
 have hB':b<B:=by
  rcases hB with h | h
  ·exact h
  ·subst h;cases hi
 rw[hb.cell (p:=⟨b,off+i*4,none⟩) hB',hb.cell (p:=⟨b,off+i*4+1,none⟩) hB',hb.cell (p:=⟨b,off+i*4+2,none⟩) hB',hb.cell (p:=⟨b,off+i*4+3,none⟩) hB'];exact h i hi
def zbo(w:World)(v:Value)(l:List Nm):Prop :=∃(ad:Option Addr) (b off cap:Nat),v=.slice ad l.length cap/\(0<l.length->ad=some ⟨b,off,none⟩)/\(b<w.heap.size\/l=[])/\zkn w b off l
theorem zm7{w:World}{base e n:Nat}{v:Value}{l:List Nm}(h:w.ownsRow base e 4 v n (flatN l))(hl:l.length=n):zbo w v l:=by
 have h':=h;obtain⟨_,⟨hv,hd⟩ | ⟨g,cap,cur,hv,hb,hg,hn,hm,hsz,htk⟩⟩:=h'
 ·have:l=[]:=List.length_eq_zero_iff.1 (by omega);subst this;rw[hv];exact⟨none,0,0,0,rfl,fun h=>absurd h (by simp),.inr rfl,fun i hi=>by simp at hi⟩
 ·have hc:∀j u,(flatN l)[j]? = some u->w.cell? ⟨g,0+j,none⟩=some u:=fun j u hj=>by
   have:=h.cells (g:=g) (by rw[hv];rfl) j u hj;rw[Addr.add_lit]at this;exact this
  refine⟨some ⟨g,0,none⟩,g,0,cap,by rw[hl];exact hv,fun _=>rfl,.inl (h.lt g (by rw[hv];rfl)).2,fun i hi=>?_⟩;obtain⟨h0,h1,h2,h3⟩:=zv6 l i hi;exact⟨hc _ _ h0,by rw[Nat.add_assoc];exact hc _ _ h1,by rw[Nat.add_assoc];exact hc _ _ h2,by rw[Nat.add_assoc];exact hc _ _ h3⟩
theorem zxF:(Tryz.prog.info? 105).map (fun i=>(i.zero,i.size,i.bytes))=some (some (.agg #[.int .i64 0,.int .i64 0,.int .i64 0,.int .i64 0]),4,32):=by kernel_rfl
def zaY(l:List Op3)(k:Nat):List Nm:=(List.range k).map (zaA l)
theorem zcy(l:List Op3)(k:Nat):(zaY l k).length=k:=by simp[zaY]
theorem zk2(l:List Op3)(k:Nat):zaY l (k+1)=zaY l k++[zaA l k]:=by unfold zaY;rw[List.range_succ,List.map_append];rfl
theorem zrx(l:List Op3)(n k:Nat)(h:k<n):zn8 (zaY l n) k=zaA l k:=by simp[zn8,zaY,List.getD,h]
def zfj(w:World)(B:Nat)(l:List Op3):Prop:=∀j,j<7->w.cell? ⟨B,j,none⟩=some (.int .i64 (ofL l (j:Nat)).length)/\w.frozen? ⟨B,j,none⟩=false
theorem zfj.lt{w:World}{B:Nat}{l:List Op3}(h:zfj w B l):B<w.heap.size:=World.block_lt_of_cell? w _ (h 0 (by omega)).1
theorem zvN(l:List Op3)(w:World):zfj (w.alloc (.cells #[.int .i64 0,.int .i64 0,.int .i64 0,.int .i64 0,.int .i64 0,.int .i64 0,.int .i64 0] 136)) w.heap.size (List.take 0 l):=by
 intro j hj
 match j,hj with
 | 0,_=>exact⟨by simp[ofL],by simp⟩
 | 1,_=>exact⟨by simp[ofL],by simp⟩
 | 2,_=>exact⟨by simp[ofL],by simp⟩
 | 3,_=>exact⟨by simp[ofL],by simp⟩
 | 4,_=>exact⟨by simp[ofL],by simp⟩
 | 5,_=>exact⟨by simp[ofL],by simp⟩
 | 6,_=>exact⟨by simp[ofL],by simp⟩
theorem zfj.same{w w':World}{B:Nat}{l:List Op3}(h:zfj w B l)(hb:w'.heap[B]? = w.heap[B]?):zfj w' B l:=fun j hj =>⟨(World.cell?_of_block (a:=⟨B,j,none⟩) hb).trans (h j hj).1,(World.frozen?_of_block (a:=⟨B,j,none⟩) hb).trans (h j hj).2⟩
theorem zfj.step{w:World}{B:Nat}{l:List Op3}{o:Op3}(h:zfj w B l)(h1:1<=o.1)(h6:o.1<=6):zfj (w.setCell ⟨B,o.1.toNat,none⟩ (.int .i64 ((ofL l o.1).length+1))) B (l++[o]):=by
 intro j hj;obtain⟨hc,hf⟩:=h j hj;obtain⟨hct,_⟩:=h o.1.toNat (by omega);constructor
 ·by_cases hjt:j=o.1.toNat
  ·subst hjt;rw[World.cell?_setCell_same _ _ _ hct,show((o.1.toNat:Nat):Int)=o.1 by omega,zey,zdr,if_pos rfl];simp[ofL]
  ·rw[World.cell?_setCell_other _ _ _ _ (by intro he;injection he with _ he2 _;exact hjt he2.symm),hc,zey,zdr,if_neg (by omega)];simp[ofL]
 ·simpa using hf
theorem zrJ{w:World}{base e s n:Nat}{v:Value}{xs:List Value}(h:w.ownsRow base e s v n xs){B j:Nat}(hB:B<base)(u:Value):(w.setCell ⟨B,j,none⟩ u).ownsRow base e s v n xs :=h.kept (row:=some B) ⟨rfl,rfl,rfl,by simp,fun k _ hk=>heap_setCell_other w ⟨B,j,none⟩ k u (fun e=>hk (by simp[e]))⟩ (.inr fun he=>by have:=(h.lt B he).1;omega)
theorem zyl(w:World)(t a x:Int)(m:Nat):∀j u,(flatN [((t,a,x),m)])[j]? = some u->(w.alloc (.cells #[.int .i64 t,.int .i64 a,.int .i64 x,.int .i64 m] 105)).cell? ((⟨w.heap.size,0,none⟩:Addr).add j)=some u:=by
 intro j u hj
 match j,hj with
 | 0,hj=>simp[flatN]at hj;subst hj;simp[Addr.add]
 | 1,hj=>simp[flatN]at hj;subst hj;simp[Addr.add]
 | 2,hj=>simp[flatN]at hj;subst hj;simp[Addr.add]
 | 3,hj=>simp[flatN]at hj;subst hj;simp[Addr.add]
 | k+4,hj=>simp[flatN]at hj
theorem onames_any(l:List Op3)(v:Value)(w:World)(hI:zai w v l)(hl:l.length<=40)(hin:∀o∈l,1<=o.1/\o.1<=6):Calls Tryz.prog 122 #[v] w fun e w'=>∃v',e=.returned v'/\zbo w' v' (zaY l l.length)/\Below w.heap.size w w':=by
 obtain⟨ad,b,off,cap,rfl,ha,_,hbB,hops⟩:=hI;have HO:Hid (∀W,Below w.heap.size w W->∀k,k<l.length->ad=some ⟨b,off,none⟩/\W.cell? ⟨b,off+k*3,none⟩=some (.int .i64 (opAt l k).1)/\W.cell? ⟨b,off+k*3+1,none⟩=some (.int .i64 (opAt l k).2.1)/\W.cell? ⟨b,off+k*3+2,none⟩=some (.int .i64 (opAt l k).2.2)):=fun W hW k hk=>⟨ha (by omega),(hops.below hW hbB) k hk⟩;clear ha hbB hops;obtain⟨i0,hi,hz0,hs0,hy0⟩:=info_parts zxF;have HI:Hid (Tryz.prog.info? 105=some i0/\i0.zero=some (.agg #[.int .i64 0,.int .i64 0,.int .i64 0,.int .i64 0])/\i0.size=4/\i0.bytes=32):=⟨hi,hz0,hs0,hy0⟩;clear hi hz0 hs0 hy0;go_enter Tryz.func122,Tryz.ntmps122;go_wp2
 go_loopw [4,9] (fun v4 v9 wr=>∃k:Nat,k<=l.length/\v9=.int .i64 k/\wr.ownsRow (w.heap.size+1) 105 4 v4 k (flatN (zaY l k))/\zfj wr w.heap.size (l.take k)/\Below w.heap.size w wr) (fun _ v9 _=>l.length-(intOf v9).toNat)
 case atStart=>exact⟨0,Nat.zero_le _,rfl,World.ownsRow_nil _ _ _ _,zvN l w,(Below.refl _ w).alloc (Nat.le_refl _) _⟩
 case round =>
  obtain⟨k,hk,rfl,hown,hhad,hbel⟩:=hrel;have hsz:=hbel.size;by_cases hlt:k<l.length
  ·obtain⟨rfl,c0,c1,c2⟩:=HO.out wr hbel k hlt;obtain⟨⟨t,a,x⟩,ho⟩:∃o:Op3,opAt l k=o:=⟨_,rfl⟩;rw[ho]at c0 c1 c2;have ht:=hin (t,a,x) (by rw[<-ho];exact zal hlt);obtain⟨ht1,ht6⟩:=ht;simp only at c0 c1 c2 ht1 ht6;obtain⟨g0,g1⟩:=hhad t.toNat (by omega);rw[show((t.toNat:Nat):Int)=t by omega]at g0;have HT:Hid (l.take (k+1)=l.take k++[(t,a,x)]):=by show l.take (k+1)=l.take k++[(t,a,x)];rw[List.take_succ_eq_append_getElem hlt,<-ho];simp[opAt,List.getD,List.getElem?_eq_getElem hlt]
   obtain⟨m,hm⟩:∃m,(ofL (l.take k) t).length=m:=⟨_,rfl⟩;rw[hm]at g0;have HNM:Hid (zaA l k=((t,a,x),m)):=by show zaA l k=((t,a,x),m);unfold zaA nthAt;rw[ho,hm]
   have HM:Hid ((ofL (l.take k) t).length=m):=hm;have hm40:m<=40:=by rw[<-hm];have h1:=List.length_filter_le (fun o:Op3=>o.1 == t) (l.take k);have h2:(l.take k).length<=k:=List.length_take_le _ _;unfold ofL;omega
   have HHAD:Hid (zfj wr w.heap.size (l.take k)):=hhad;have HOWN:Hid (wr.ownsRow (w.heap.size+1) 105 4 u4 k (flatN (zaY l k))):=hown;have hhl:=hhad.lt;clear ho hm hhad hown HO;go_wp2_with fail;obtain⟨W,hW⟩:∃W,W=wr.alloc (.cells #[.int .i64 t,.int .i64 a,.int .i64 x] 103):=⟨_,rfl⟩;obtain⟨P,hP⟩:∃P,P=wr.heap.size:=⟨_,rfl⟩;have p0:W.cell? ⟨P,0,none⟩=some (.int .i64 t):=by rw[hW,hP];simp
   have p1:W.cell? ⟨P,1,none⟩=some (.int .i64 a):=by rw[hW,hP];simp
   have p2:W.cell? ⟨P,2,none⟩=some (.int .i64 x):=by rw[hW,hP];simp
   have q0:W.cell? ⟨w.heap.size,t.toNat,none⟩=some (.int .i64 m):=by rw[hW,World.cell?_alloc_lt _ _ ⟨w.heap.size,t.toNat,none⟩ hhl];exact g0
   have HOW:Hid (W.ownsRow (w.heap.size+1) 105 4 u4 k (flatN (zaY l k))):=by show W.ownsRow (w.heap.size+1) 105 4 u4 k (flatN (zaY l k));rw[hW];exact HOWN.out.alloc _
   have HHW:Hid (zfj W w.heap.size (l.take k)):=by show zfj W w.heap.size (l.take k);refine HHAD.out.same ?_;rw[hW];exact((Below.refl _ wr).alloc (Nat.le_refl _) _).block _ hhl
   have hbW:Below w.heap.size w W:=by rw[hW];exact hbel.alloc hsz _
   have hPW:P<W.heap.size:=World.block_lt_of_cell? W _ p0;have hPo:∀g,u4.ownBlock=some g->g<P:=fun g hg=>by rw[hP];exact(HOWN.out.lt g hg).2
   have hWs:w.heap.size<P:=by omega
   have HPO:Hid (∀g,u4.ownBlock=some g->g<P):=hPo;rw[<-hW,<-hP];clear hW hP hPo HOWN HHAD g0 g1 c0 c1 c2 hbel;have hb7:0<=t/\t<7:=by omega
   go_region_law (refine zcD rfl (.tmp 13) (.tmp 20) 98 rfl (w.heap.size+1) 105 i0 (.agg #[.int .i64 0,.int .i64 0,.int .i64 0,.int .i64 0]) 4 32 Tryz.underlying98 HI.out.1 HI.out.2.1 HI.out.2.2.1 HI.out.2.2.2 rfl (by decide) u4 k (flatN (zaY l k)) (by simp[Act.eval]) (HOW.out.alloc _) ⟨W.heap.size,0,none⟩ 1 1 (flatN [((t,a,x),m)]) (by simp[Act.eval]) rfl (zyl W t a x m) (zur _) (by unfold maxLen;omega) (by omega) (by simp;omega) ?_;intro v1 w1 hown1 hgr1 hnil1)
   all_goals
    have e0:w1.cell? ⟨P,0,none⟩=some (.int .i64 t):=hgr1.cell (by rw[World.cell?_drew,World.cell?_alloc_lt _ _ ⟨P,0,none⟩ hPW];exact p0) (fun he=>by have:=HPO.out P he.symm;omega);have hblk:w1.heap[w.heap.size]? = W.heap[w.heap.size]? := (hgr1.block w.heap.size (by simp;omega) (fun he=>by have:=(HOW.out.lt _ he.symm).1;omega)).trans (((Below.refl _ W).alloc (Nat.le_refl _) _).block _ (by omega));have hh1:zfj w1 w.heap.size (l.take k):=HHW.out.same hblk;obtain⟨r0,r1⟩:=hh1 t.toNat (by omega);rw[show((t.toNat:Nat):Int)=t by omega,HM.out]at r0;have HH1:Hid (zfj w1 w.heap.size (l.take k)):=hh1;have HO1:Hid (w1.ownsRow (w.heap.size+1) 105 4 v1 (k+1) (flatN (zaY l k)++flatN [((t,a,x),m)])):=hown1;have hB1:=(hbW.alloc hbW.size _).drew.grown hgr1 (by simp;omega) (fun g hg=>by have:=(HOW.out.lt g hg).1;omega);clear hh1 hown1 hblk p0 p1 p2 q0;go_wp2;go_roundw
    case rel=>exact⟨k+1,by omega,by go_num,by rw[zk2,HNM.out,zmt];exact zrJ HO1.out (by omega) _,by rw[HT.out];have:=HH1.out.step (o:=(t,a,x)) ht1 ht6;rw[HM.out]at this;exact this,hB1.setCell (by exact Nat.le_refl _) _⟩
    case measure=>simp[intOf];omega
  ·go_wp2;go_ret;have hkl:k=l.length:=by omega
   subst hkl;exact⟨_,rfl,zm7 hown (zcy _ _),hbel⟩
end Go.Proofs.YthlhgiihngcobaaGreatDoor
namespace Go.Proofs.YthlhgiihngcobaaGreatDoor
open Go.RowKit Go.Maps
def nmV(n:Nm):Value:=.agg #[.int .i64 n.1.1,.int .i64 n.1.2.1,.int .i64 n.1.2.2,.int .i64 n.2]
def nmL(n:Nm):Lit:=.string (keyBytes [.int .i64 n.1.1,.int .i64 n.1.2.1,.int .i64 n.1.2.2,.int .i64 n.2])
theorem zAM:Tryz.prog.types.size=369:=by kernel_rfl
theorem zBb:laidOutB Tryz.prog=true:=by kernel_rfl
theorem zCk:105<Tryz.prog.types.size:=of_decide_eq_true (by kernel_rfl)
theorem zBw:(match Tryz.prog.underlying 105 with | some (.array _ _) | some (.struct _)=>true | _=>false)=true:=by kernel_rfl
theorem zAC:Keyed Tryz.prog 105:=Keyed.of_law (deep_law_laid zBb (m:=3) (by omega) zCk (by kernel_rfl) zBw)
theorem zCj:Tryz.prog.keyType 105=true:=by kernel_rfl
theorem zt7:Tryz.prog.cellsOf 105=4:=by kernel_rfl
theorem zxl:Tryz.prog.cellsOf 103=3:=by kernel_rfl
theorem zvc:Tryz.prog.cellsOf 3=1:=by kernel_rfl
def Small(n:Nm):Prop:=(Lit.int .i64 n.1.1).wf=true/\(Lit.int .i64 n.1.2.1).wf=true/\(Lit.int .i64 n.1.2.2).wf=true/\(Lit.int .i64 n.2).wf=true
theorem zuo(d:Nat)(n:Nm)(h:Small n):Tryz.prog.keyLits (d+3) 105 (nmV n).cells.toList=some [.int .i64 n.1.1,.int .i64 n.1.2.1,.int .i64 n.1.2.2,.int .i64 n.2]:=by
 obtain⟨h0,h1,h2,h3⟩:=h;simp[Program.keyLits,nmV,Value.cells,h0,h1,h2,h3,zt7,zxl,zvc,Tryz.underlying105,Tryz.underlying103,Tryz.underlying3];rw[if_pos]
 ·rfl
 ·intro i hi;rcases(show i=0\/i=1\/i=2 by omega)with rfl | rfl | rfl <;> simp
theorem zgG(n:Nm)(h:Small n):keyOf Tryz.prog 105 (nmV n)=some (nmL n):=by obtain⟨d,hd⟩:∃d,Tryz.prog.types.size+1=d+3:=⟨369-2,by rw[zAM]⟩;have hl:=zuo d n h;unfold keyOf;rw[Tryz.underlying105,hd];simp only[hl,zCj,Value.formed,Tryz.underlying105];simp[nmV,zt7,nmL]
theorem zyO{a b:Nm}(ha:Small a)(hb:Small b)(h:nmL a=nmL b):a=b:=by
 have h1:=zAC.inj (zgG a ha) (h ▸zgG b hb);obtain⟨⟨a1,a2,a3⟩,a4⟩:=a;obtain⟨⟨b1,b2,b3⟩,b4⟩:=b;simp[nmV]at h1;obtain⟨rfl,rfl,rfl,h4⟩:=h1;have:a4=b4:=by omega
 rw[this]
theorem zcV{n:Int}(h0:0<=n)(h1:n<=100):(Lit.int .i64 n).wf=true:=WalkArith.wf_i64 (by omega)
theorem zdh{l:List Op3}{i:Nat}(hl:l.length<=40)(hop:∀o∈l,isOpB o=true)(hi:i<l.length):Small (zaA l i):=by
 have ho:=hop _ (zal hi);have hn:nthAt l i<=40:=by have h1:=List.length_filter_le (fun o:Op3=>o.1 == (opAt l i).1) (l.take i);have h2:(l.take i).length<=i:=List.length_take_le _ _;unfold nthAt ofL;omega
 obtain⟨⟨t,a,x⟩,hx⟩:∃o,opAt l i=o:=⟨_,rfl⟩;unfold zaA Small;rw[hx]at ho ⊢;simp[isOpB]at ho;obtain⟨⟨⟨⟨h1,h2⟩,h3⟩,h4⟩,h5⟩:=ho
 have hxb:0<=x/\x<=6:=by
  by_cases he:zaM a=true
  ·simp[he]at h5;omega
  ·simp[he]at h5;omega
 exact⟨zcV (by show(0:Int)<=t;omega) (by show t<=100;omega),zcV (by show(0:Int)<=a;omega) (by show a<=100;omega),zcV (by show(0:Int)<=x;omega) (by show x<=100;omega),zcV (by simp) (by simp;omega)⟩
theorem zoA{w:World}{v:Value}{l:List Nm}{M:Nat}{es:Array MapEntry}{clock n:Nat}(hI:zbo w v l)(hm:w.heap[M]? = some (.map es clock))(hn:l.length=n):∃(ad:Option Addr) (b off cap:Nat),v=.slice ad n cap/\∀W,w.grownBy W (some M)->∀k,k<n->ad=some ⟨b,off,none⟩/\W.cell? ⟨b,off+k*4,none⟩=some (.int .i64 (zn8 l k).1.1)/\W.cell? ⟨b,off+k*4+1,none⟩=some (.int .i64 (zn8 l k).1.2.1)/\W.cell? ⟨b,off+k*4+2,none⟩=some (.int .i64 (zn8 l k).1.2.2)/\W.cell? ⟨b,off+k*4+3,none⟩=some (.int .i64 (zn8 l k).2):=by
 subst hn;obtain⟨ad,b,off,cap,hv,ha,_,hat⟩:=hI;refine⟨ad,b,off,cap,hv,fun W hW k hk=>?_⟩;obtain⟨c0,c1,c2,c3⟩:=hat k hk;have hne:some b≠some M:=by intro he;have he:=Option.some.inj he;subst he;simp[World.cell?,hm]at c0
 exact⟨ha (by omega),hW.cell c0 hne,hW.cell c1 hne,hW.cell c2 hne,hW.cell c3 hne⟩
theorem ztS{P:Program}{k:TypeId}{R:Value->Option (DataW Unit × List MemPlace)}{w:World}{b n:Nat}{D:DataW Unit}(h:w.ownsMap P k R b n D):∃es clock,w.heap[b]? = some (.map es clock) :=
 let ⟨es,clock,hb,_⟩:=h
 ⟨es,clock,hb⟩
end Go.Proofs.YthlhgiihngcobaaGreatDoor
namespace Go.Proofs.YthlhgiihngcobaaGreatDoor
open Go.RowKit Go.Maps
def zcn(n:Nm)(j:Nat):Value:=match j with | 0=>.int .i64 n.1.1 | 1=>.int .i64 n.1.2.1 | 2=>.int .i64 n.1.2.2 | _=>.int .i64 n.2
def cells28(f:Nat->Nm):Array Value:=((List.range 28).map fun k=>zcn (f (k / 4)) (k % 4)).toArray
theorem zan(f:Nat->Nm):(cells28 f).size=28:=by simp[cells28]
theorem zbQ(f:Nat->Nm)(k:Nat)(h:k<28):(cells28 f)[k]? = some (zcn (f (k / 4)) (k % 4)):=by simp[cells28,h]
theorem zr7(n:Nm)(j:Nat):(zcn n j).oneCell'=true:=by unfold zcn;split <;> rfl
theorem zbN(f:Nat->Nm):(cells28 f).all (·.oneCell')=true:=by rw[Array.all_eq_true_iff_forall_mem];intro v hv;simp only[cells28,List.mem_toArray,List.mem_map]at hv;obtain⟨k,_,rfl⟩:=hv;exact zr7 _ _
theorem zjR{f g:Nat->Nm}(h:∀x,x<7->f x=g x):cells28 f=cells28 g:=by unfold cells28;congr 1;refine List.map_congr_left fun k hk=>?_;rw[h (k / 4) (by have:=List.mem_range.1 hk;omega)]
theorem ztm{a b:Nm}(h0:zcn a 0=zcn b 0)(h1:zcn a 1=zcn b 1)(h2:zcn a 2=zcn b 2)(h3:zcn a 3=zcn b 3):a=b:=by
 obtain⟨⟨a1,a2,a3⟩,a4⟩:=a;obtain⟨⟨b1,b2,b3⟩,b4⟩:=b;simp[zcn]at h0 h1 h2 h3;obtain rfl:=h0;obtain rfl:=h1;obtain rfl:=h2;have:a4=b4:=by omega
 rw[this]
theorem cells28_inj{f g:Nat->Nm}(h:cells28 f=cells28 g){x:Nat}(hx:x<7):f x=g x:=by
 have e:∀j,j<4->zcn (f x) j=zcn (g x) j:=fun j hj=>by have h1:=zbQ f (x*4+j) (by omega);rw[h,zbQ g (x*4+j) (by omega),show(x*4+j) / 4=x by omega,show(x*4+j) % 4=j by omega]at h1;exact(Option.some.inj h1).symm
 exact ztm (e 0 (by omega)) (e 1 (by omega)) (e 2 (by omega)) (e 3 (by omega))
def zzd(f:Nat->Nm)(x:Nat)(n:Nm):Nat->Nm:=fun i=>if i=x then n else f i
def zaE(w:World)(b:Nat)(f:Nat->Nm):Prop:=w.heap[b]? = some (.cells (cells28 f) 107 (0,0))
theorem zaE.lt{w:World}{b:Nat}{f:Nat->Nm}(h:zaE w b f):b<w.heap.size:=by have h':w.heap[b]? = some _:=h;exact(Array.getElem?_eq_some_iff.1 h').1
theorem zaE.cell{w:World}{b:Nat}{f:Nat->Nm}(h:zaE w b f){x j:Nat}(hx:x<7)(hj:j<4):w.cell? ⟨b,x*4+j,none⟩=some (zcn (f x) j):=by rw[cell_of_row w b _ _ _ _ h,zbQ f _ (by omega),show(x*4+j) / 4=x by omega,show(x*4+j) % 4=j by omega]
theorem zaE.cells{w:World}{b:Nat}{f:Nat->Nm}(h:zaE w b f){x:Nat}(hx:x<7){t a i:Int}{m:Nat}(he:f x=((t,a,i),m)):w.cell? ⟨b,x*4,none⟩=some (.int .i64 t)/\w.cell? ⟨b,x*4+1,none⟩=some (.int .i64 a)/\w.cell? ⟨b,x*4+2,none⟩=some (.int .i64 i)/\w.cell? ⟨b,x*4+3,none⟩=some (.int .i64 m):=by have h0:=h.cell hx (j:=0) (by omega);have h1:=h.cell hx (j:=1) (by omega);have h2:=h.cell hx (j:=2) (by omega);have h3:=h.cell hx (j:=3) (by omega);rw[he]at h0 h1 h2 h3;exact⟨h0,h1,h2,h3⟩
theorem zaE.thaw{w:World}{b:Nat}{f:Nat->Nm}(h:zaE w b f)(k:Nat):w.frozen? ⟨b,k,none⟩=false:=by have h':w.heap[b]? = some _:=h;simp[World.frozen?,h']
theorem zaE.same{w w':World}{b:Nat}{f:Nat->Nm}(h:zaE w b f)(hb:w'.heap[b]? = w.heap[b]?):zaE w' b f:=hb.trans h
theorem zaE.below{w w1:World}{b B:Nat}{f:Nat->Nm}(h:zaE w b f)(hb:Below B w w1)(hB:b<B):zaE w1 b f:=(hb.block b hB).trans h
theorem zaE.alloc{w:World}{b:Nat}{f:Nat->Nm}(h:zaE w b f)(o:Obj):zaE (w.alloc o) b f:=(Below.heap_alloc w o b h.lt).trans h
theorem znW(f:Nat->Nm)(x:Nat)(n:Nm):(((cells28 f |>.setIfInBounds (x*4) (zcn n 0)).setIfInBounds (x*4+1) (zcn n 1)).setIfInBounds (x*4+2) (zcn n 2)).setIfInBounds (x*4+3) (zcn n 3)=cells28 (zzd f x n):=by
 refine Array.ext_getElem? fun j=>?_;by_cases hj:j<28
 ·rw[zbQ _ j hj];simp only[Array.getElem?_setIfInBounds,Array.size_setIfInBounds,zan];rw[zbQ _ j hj];unfold zzd;by_cases e:j / 4=x
  ·rw[if_pos e];rcases(show j=x*4\/j=x*4+1\/j=x*4+2\/j=x*4+3 by omega)with h | h | h | h
   ·rw[if_neg (by omega),if_neg (by omega),if_neg (by omega),if_pos h.symm,if_pos (by omega),show j % 4=0 by omega]
   ·rw[if_neg (by omega),if_neg (by omega),if_pos h.symm,if_pos (by omega),show j % 4=1 by omega]
   ·rw[if_neg (by omega),if_pos h.symm,if_pos (by omega),show j % 4=2 by omega]
   ·rw[if_pos h.symm,if_pos (by omega),show j % 4=3 by omega]
  ·rw[if_neg e,if_neg (by omega),if_neg (by omega),if_neg (by omega),if_neg (by omega)]
 ·rw[Array.getElem?_eq_none (by simp[zan];omega),Array.getElem?_eq_none (by simp[zan];omega)]
theorem zaE.set{w:World}{b:Nat}{f:Nat->Nm}(h:zaE w b f)(x:Nat)(n:Nm):zaE ((((w.setCell ⟨b,x*4,none⟩ (zcn n 0)).setCell ⟨b,x*4+1,none⟩ (zcn n 1)).setCell ⟨b,x*4+2,none⟩ (zcn n 2)).setCell ⟨b,x*4+3,none⟩ (zcn n 3)) b (zzd f x n):=by have h':w.heap[b]? = some (.cells (cells28 f) 107 (0,0)):=h;unfold zaE World.setCell;simp[Array.getElem?_modify,h',znW f x n]
theorem zhk(w:World)(f:Nat->Nm):zaE (w.alloc (.cells (cells28 f) 107)) w.heap.size f:=by unfold zaE World.alloc;simp
theorem ziZ(w:World)(c:Array Value)(h:cells28 (fun _=>zN)=c):zaE (w.alloc (.cells c 107)) w.heap.size (fun _=>zN):=h ▸zhk w _
theorem zmu:(Tryz.prog.info? 107).map (·.size)=some 28:=by kernel_rfl
theorem zaT(f:Nat->Nm):(Tryz.prog.info? 107).map (·.size)=some (cells28 f).size:=by rw[zan];exact zmu
def cells29(M:Nat)(f:Nat->Nm):Array Value:=(Value.map (some M)::(cells28 f).toList).toArray
theorem zdS(M:Nat)(f:Nat->Nm):(cells29 M f).size=29:=by simp[cells29,zan]
theorem zhI(M:Nat)(f:Nat->Nm):(cells29 M f).all (·.oneCell')=true:=by
 rw[Array.all_eq_true_iff_forall_mem];intro v hv;simp only[cells29,List.mem_toArray,List.mem_cons,Array.mem_toList_iff]at hv;rcases hv with rfl | hv
 ·rfl
 ·exact(Array.all_eq_true_iff_forall_mem.1 (zbN f)) v hv
theorem zqK:(Tryz.prog.info? 109).map (·.size)=some 29:=by kernel_rfl
theorem zdA(M:Nat)(f:Nat->Nm):(Tryz.prog.info? 109).map (·.size)=some (cells29 M f).size:=by rw[zdS];exact zqK
def zaU(w:World)(b M:Nat)(f:Nat->Nm):Prop:=w.heap[b]? = some (.cells (cells29 M f) 109 (0,0))
theorem zaU.lt{w:World}{b M:Nat}{f:Nat->Nm}(h:zaU w b M f):b<w.heap.size:=by have h':w.heap[b]? = some _:=h;exact(Array.getElem?_eq_some_iff.1 h').1
theorem zaU.map{w:World}{b M:Nat}{f:Nat->Nm}(h:zaU w b M f):w.cell? ⟨b,0,none⟩=some (.map (some M)):=by rw[cell_of_row w b _ _ _ _ h];rfl
theorem zaU.cell{w:World}{b M:Nat}{f:Nat->Nm}(h:zaU w b M f){k:Nat}(hk:k<28):w.cell? ⟨b,1+k,none⟩=some (zcn (f (k / 4)) (k % 4)):=by rw[cell_of_row w b _ _ _ _ h,Nat.add_comm 1 k];have:=zbQ f k hk;simpa[cells29]using this
theorem zaU.range{w:World}{b M:Nat}{f:Nat->Nm}(h:zaU w b M f):w.rangeAt b 1 (cells28 f).toList:=fun j v hv=>by
 have hj:j<28:=by have:=(List.getElem?_eq_some_iff.1 hv).1;simpa[zan]using this
 rw[h.cell hj];have h1:=zbQ f j hj;rw[<-Array.getElem?_toList,hv]at h1;exact h1.symm
theorem zaU.below{w w1:World}{b B M:Nat}{f:Nat->Nm}(h:zaU w b M f)(hb:Below B w w1)(hB:b<B):zaU w1 b M f:=(hb.block b hB).trans h
theorem zaU.same{w w':World}{b M:Nat}{f:Nat->Nm}(h:zaU w b M f)(hb:w'.heap[b]? = w.heap[b]?):zaU w' b M f:=hb.trans h
theorem zvv(w:World)(M:Nat)(f:Nat->Nm):zaU (w.alloc (.cells (cells29 M f) 109)) w.heap.size M f:=by unfold zaU World.alloc;simp
theorem zou(M:Nat)(f:Nat->Nm):Tryz.prog.built 109 [(0,.map (some M)),(1,.agg (cells28 f))]=some (cells29 M f):=by kernel_rfl
end Go.Proofs.YthlhgiihngcobaaGreatDoor
