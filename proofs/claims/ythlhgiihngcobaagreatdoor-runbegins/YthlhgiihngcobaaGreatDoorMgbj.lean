/-
  PROVED HERE: locks.Table's method Ask, over a table in memory; plain facts, with no word of the program; laneref1.Table's method For, over a table in memory; nothing yet of package locks.
  Conditions: none but those that each theorem's own premises say.
-/
import Derived.Test.YthlhgiihngcobaaGreatDoorMgbi
import Derived.Deep.RegionHeld3
import Derived.Test.YthlhgiihngcobaaGreatDoorMgam
import Derived.Test.YthlhgiihngcobaaGreatDoorMgbh
import Derived.Test.YthlhgiihngcobaaGreatDoorMgah
import Derived.Test.YthlhgiihngcobaaGreatDoorMgaf
import Derived.Maps.AppendAt
import Derived.Test.YthlhgiihngcobaaGreatDoorMgbg
set_option maxHeartbeats 32000000
set_option maxRecDepth 100000
namespace Go.Proofs.YthlhgiihngcobaaGreatDoor
open Go.RowKit
theorem zvk{s:za3}{x:Op3}(h1:zak x=true)(h2:waitsB s.2 x.1=false)(h3:zvW s.1 x=false):askT s x=(((zcp s x).1,0),(zcp s x).2):=by unfold askT zcp;rw[if_neg (by rw[h1];decide),if_neg (by rw[h2];decide),if_neg (by rw[h3];decide)];split <;> rfl
theorem zeG(t:Int)(w W:World)(hW:Below w.heap.size w W):Calls Tryz.prog 225 #[.int .i64 t] W fun e w'=>∃P:Nat,e=.returned (.func (.func 259) #[] #[.pointer (some ⟨P,0,none⟩)])/\w'.cell? ⟨P,0,none⟩=some (.int .i64 t)/\Below w.heap.size w w'/\w.heap.size<=P :=(zAv t W).mono fun _ _ ⟨h1,h2,h3⟩=>⟨_,h1,h2,hW.trans (h3.mono hW.size),hW.size⟩
theorem zxv(T:Nat)(cs:Array Value)(hv wv:Value)(s:za3)(x:Op3)(w:World)(h:zaK w 267 T 0 cs hv wv s)(hl1:s.1.length<=900)(hl2:s.2.length<=900)(hok1:∀y∈s.1,zak y=true)(hok2:∀y∈s.2,zak y=true):Calls Tryz.prog 193 #[.pointer (some ⟨T,0,none⟩),lkV x] w fun e w'=>e=.returned (.tuple #[.bool (askT s x).1.1,zeH (askT s x).1.2])/\TabStep w w' 267 T 0 cs hv wv (askT s x).2:=by
 obtain⟨t,i,m⟩:=x;obtain⟨ad,c,rfl,-⟩:=zad h.oh;obtain⟨wad,wc,rfl,-⟩:=zad h.ow;obtain⟨n1,hn1⟩:∃n,s.1.length=n:=⟨_,rfl⟩;obtain⟨ln,hln⟩:∃n,s.2.length=n:=⟨_,rfl⟩;rw[hn1]at h hl1 ⊢;rw[hln]at h hl2 ⊢;have HN1:Hid (s.1.length=n1):=hn1;have HLN:Hid (s.2.length=ln):=hln;have HOK:Hid ((∀y∈s.1,zak y=true)/\∀y∈s.2,zak y=true):=⟨hok1,hok2⟩;have HT:Hid (zaK w 267 T 0 cs (.slice ad n1 c) (.slice wad ln wc) s):=h;have hTl:=h.lt;clear h hn1 hln hok1 hok2;go_enter Tryz.func193,Tryz.ntmps193
 go_upto_region 1 with(fail)
 obtain⟨W,hW⟩:∃W,W=w.alloc (.cells #[.int .i64 t,.int .i64 i,.int .i64 m] 269):=⟨_,rfl⟩;rw[<-hW];have hLW:za0 W w.heap.size (t,i,m):=by rw[hW];exact zbP _ _ _ _ _
 have hbW:Below w.heap.size w W:=by rw[hW];exact(Below.refl _ w).alloc (Nat.le_refl _) _
 have hPW:w.heap.size<W.heap.size:=hLW.lt;obtain⟨P,hP⟩:∃P,P=w.heap.size:=⟨_,rfl⟩;rw[<-hP]at hLW hPW hTl ⊢;have HP:Hid (P=w.heap.size):=hP;have HBW:Hid (Below w.heap.size w W):=hbW;have HLW:Hid (za0 W P (t,i,m)):=hLW;obtain⟨p0,p1,p2⟩:=hLW;simp only at p0 p1 p2;clear hW hbW hP;go_wp2_with fail;refine(pLock_raw t i m W).mono ?_;rintro e w1 ⟨rfl,hb1⟩;have HL1:Hid (za0 w1 P (t,i,m)):=HLW.out.below hb1 hPW;have HB1:Hid (Below w.heap.size w w1):=HBW.out.trans (hb1.mono (by have:=HP.out;omega));have HT1:Hid (∀V,Below w1.heap.size w1 V->zaK V 267 T 0 cs (.slice ad n1 c) (.slice wad ln wc) s):=fun V hV=>(HT.out.below HB1.out).below hV;have hP1:P<w1.heap.size:=HL1.out.lt;clear hb1 p0 p1 p2 hPW HLW HBW;cases hlk:zak (t,i,m)with
 | false =>
   have HA:Hid (askT s (t,i,m)=((false,1),s)):=by show askT s _=_;unfold askT;rw[if_pos hlk]
   clear hlk;go_wp2_with fail;go_ret2;refine⟨by rw[HA.out];rfl,?_⟩;rw[HA.out];exact TabStep.same HT.out HB1.out
 | true =>
   have HLK:Hid (zak (t,i,m)=true):=hlk;clear hlk;obtain⟨q0,q1,q2⟩:=HL1.out;simp only at q0 q1 q2;have c1:=(HT1.out w1 (Below.refl _ _)).c1;simp only[Nat.zero_add]at c1;have HOF:Hid (Calls Tryz.prog 225 #[.int .i64 t] w1.drew fun e w'=>∃P2:Nat,e=.returned (.func (.func 259) #[] #[.pointer (some ⟨P2,0,none⟩)])/\w'.cell? ⟨P2,0,none⟩=some (.int .i64 t)/\Below w1.heap.size w1 w'/\w1.heap.size<=P2):=zeG t w1 w1.drew (Below.refl _ w1).drew;have HCF:Hid (∀(V:World) (P2:Nat),Below w1.heap.size w1 V->V.cell? ⟨P2,0,none⟩=some (.int .i64 t)->Calls Tryz.prog 224 #[.slice wad ln wc,.func (.func 259) #[] #[.pointer (some ⟨P2,0,none⟩)]] V fun r w'=>r=.returned (.bool (waitsB s.2 t))/\Below w1.heap.size w1 w'):=fun V P2 hV hc =>(zby s.2 _ (fun y=>y.1 == t) _ #[.pointer (some ⟨P2,0,none⟩)] V zmV (HT1.out V hV).waits (by rw[HLN.out];omega) fun W2 hW2 e _=>ztb e t P2 W2 ((hW2.cell (p:=⟨P2,0,none⟩) (World.block_lt_of_cell? V _ hc)).trans hc)).mono fun _ _ ⟨h1,h2⟩=>⟨h1,hV.trans (h2.mono hV.size)⟩;have HKC:Hid (∀V,Below w1.heap.size w1 V->V.cell? ⟨T,1,none⟩=some (.slice wad ln wc)/\V.cell? ⟨P,0,none⟩=some (.int .i64 t)):=fun V hV=>⟨by have:=(HT1.out V hV).c1;simpa using this,(hV.cell (p:=⟨P,0,none⟩) hP1).trans q0⟩;obtain⟨b,hb⟩:∃b,waitsB s.2 t=b:=⟨_,rfl⟩;rw[hb]at HCF;have HWB:Hid (waitsB s.2 t=b):=hb;clear hb;go_wp2_with fail
   go_region_held3 (fun w'=>w'.cell? ⟨T,1,none⟩=some (.slice wad ln wc)/\w'.cell? ⟨P,0,none⟩=some (.int .i64 t)) (first | exact⟨kd0,kd1⟩ | exact⟨ke0,ke1⟩ | exact⟨c1,q0⟩) (first | (go_at_call 225;refine HOF.out.mono ?_;rintro e w2 ⟨P2,rfl,hc2,hb2,hP2⟩;obtain⟨ke0,ke1⟩:=HKC.out w2 hb2) | (go_at_call 224;refine(HCF.out _ _ hb2 hc2).mono ?_;rintro e w3 ⟨rfl,hb3⟩;obtain⟨kd0,kd1⟩:=HKC.out w3 hb3))
   all_goals
    have HB3:Hid (Below w1.heap.size w1 w3):=hb3;clear hb2 hc2 hP2 hb3 ke0 ke1 c1 HOF HCF HKC q0 q1 q2;cases b with
    | true =>
      have HA:Hid (askT s (t,i,m)=((false,7),s)):=by show askT s _=_;unfold askT;rw[if_neg (by rw[HLK.out];decide),if_pos HWB.out]
      go_wp2_with fail;go_ret2;refine⟨by rw[HA.out];rfl,?_⟩;rw[HA.out];exact TabStep.same HT.out (HB1.out.trans (HB3.out.mono HB1.out.size))
    | false =>
      have HT3:Hid (zaK w3 267 T 0 cs (.slice ad n1 c) (.slice wad ln wc) s):=HT1.out w3 HB3.out;have HL3:Hid (za0 w3 P (t,i,m)):=HL1.out.below HB3.out hP1;have hP3:P<w3.heap.size:=HL3.out.lt;have c0:=HT3.out.c0;have HCE:Hid (Calls Tryz.prog 224 #[.slice ad n1 c,.func (.func 226) #[] #[.pointer (some ⟨P,0,none⟩)]] w3 fun r w'=>r=.returned (.bool (zvW s.1 (t,i,m)))/\Below w3.heap.size w3 w'):=by show Calls _ _ _ _ _;rw[<-zzQ HOK.out.1 HLK.out];exact zby s.1 _ (fun y=>hasP y (t,i,m)) _ #[.pointer (some ⟨P,0,none⟩)] w3 zmR HT3.out.held (by rw[HN1.out];omega) fun W2 hW2 e _=>zrE e (t,i,m) P W2 (HL3.out.below hW2 hP3)
      go_wp2_with fail;refine HCE.out.mono ?_;rintro e w4 ⟨rfl,hb4⟩;have HB4:Hid (Below w.heap.size w w4):=(HB1.out.trans (HB3.out.mono HB1.out.size)).trans (hb4.mono (Nat.le_trans HB1.out.size HB3.out.size));obtain⟨b2,hb2⟩:∃b2,zvW s.1 (t,i,m)=b2:=⟨_,rfl⟩;rw[hb2];have HHB:Hid (zvW s.1 (t,i,m)=b2):=hb2;clear hb2;cases b2 with
      | true =>
        have HA:Hid (askT s (t,i,m)=((true,0),s)):=by show askT s _=_;unfold askT;rw[if_neg (by rw[HLK.out];decide),if_neg (by rw[HWB.out];decide),if_pos HHB.out]
        clear hb4;go_wp2_with fail;go_ret2;refine⟨by rw[HA.out];rfl,?_⟩;rw[HA.out];exact TabStep.same HT.out HB4.out
      | false =>have HA:Hid (askT s (t,i,m)=(((zcp s (t,i,m)).1,0),(zcp s (t,i,m)).2)):=zvk HLK.out HWB.out HHB.out;have HT4:Hid (zaK w4 267 T 0 cs (.slice ad n1 c) (.slice wad ln wc) s):=HT.out.below HB4.out;obtain⟨r0,r1,r2⟩:=HL3.out.below hb4 hP3;simp only at r0 r1 r2;clear hb4 HCE c0;go_wp2_with fail;refine(take_any T cs _ _ s (t,i,m) w4 HT4.out (by rw[HN1.out];omega) (by rw[HLN.out];omega) HOK.out.1 HOK.out.2 HLK.out).mono ?_;rintro e w5 ⟨rfl,hst⟩;have HST:=zdY hst;clear hst r0 r1 r2;go_wp2_with fail;go_ret2;refine⟨by rw[HA.out];rfl,?_⟩;rw[HA.out];exact TabStep.later (zac.of_below HB4.out) HST.out
end Go.Proofs.YthlhgiihngcobaaGreatDoor
namespace Go.Proofs.YthlhgiihngcobaaGreatDoor
theorem zsL:∀(l m:List Int),l.Pairwise (· < ·)->m.Pairwise (· < ·)->(∀x,x∈l↔x∈m)->l=m:=by
 intro l
 induction l with
 | nil =>
   intro m _ _ h;cases m with
   | nil=>rfl
   | cons b r=>exact absurd ((h b).2 (List.mem_cons_self ..)) (by simp)
 | cons a l ih =>
   intro m hl hm h;cases m with
   | nil=>exact absurd ((h a).1 (List.mem_cons_self ..)) (by simp)
   | cons b r =>
     obtain⟨l1,l2⟩:=List.pairwise_cons.1 hl;obtain⟨m1,m2⟩:=List.pairwise_cons.1 hm
     have hab:a=b:=by
      rcases List.mem_cons.1 ((h a).1 (List.mem_cons_self ..))with e | e
      ·exact e
      ·rcases List.mem_cons.1 ((h b).2 (List.mem_cons_self ..))with e2 | e2
       ·exact e2.symm
       ·have:=m1 a e;have:=l1 b e2;omega
     subst hab;congr 1;refine ih r l2 m2 fun x=>⟨fun hx=>?_,fun hx=>?_⟩
     ·rcases List.mem_cons.1 ((h x).1 (List.mem_cons_of_mem _ hx))with e | e
      ·have:=l1 x hx;omega
      ·exact e
     ·rcases List.mem_cons.1 ((h x).2 (List.mem_cons_of_mem _ hx))with e | e
      ·have:=m1 x hx;omega
      ·exact e
theorem whomL_mem(l:List Int)(n x:Int):x∈zft l n↔x=n\/x∈l:=by
 induction l with
 | nil=>simp[zft]
 | cons a r ih =>
   unfold zft;split
   ·rename_i h;subst h;simp
   ·split
    ·simp
    ·rw[List.mem_cons,ih,List.mem_cons];constructor
     ·rintro(h | h | h)
      ·exact .inr (.inl h)
      ·exact .inl h
      ·exact .inr (.inr h)
     ·rintro(h | h | h)
      ·exact .inr (.inl h)
      ·exact .inl h
      ·exact .inr (.inr h)
theorem whomL_rise{l:List Int}(h:l.Pairwise (· < ·))(n:Int):(zft l n).Pairwise (· < ·):=by
 induction l with
 | nil=>simp[zft]
 | cons a r ih =>
   obtain⟨h1,h2⟩:=List.pairwise_cons.1 h;unfold zft;split
   ·exact h
   ·split
    ·rename_i hn hlt;refine List.pairwise_cons.2 ⟨fun x hx=>?_,h⟩;rcases List.mem_cons.1 hx with rfl | hx
     ·exact hlt
     ·have:=h1 x hx;omega
    ·rename_i hn hlt;refine List.pairwise_cons.2 ⟨fun x hx=>?_,ih h2⟩;rcases(whomL_mem r n x).1 hx with rfl | hx
     ·omega
     ·exact h1 x hx
theorem zmj(x:Int):∀(l:List Op3) (o:List Int),x∈putsO o l↔(x∈o\/∃y∈l,y.1=x):=by
 intro l
 induction l with
 | nil=>intro o;simp[putsO]
 | cons a r ih =>
   intro o;have hi:=ih (zft o a.1);unfold putsO at hi ⊢;rw[List.foldl_cons,hi,whomL_mem];clear hi;constructor
   ·rintro((h | h) | ⟨y,hy,h⟩)
    ·exact .inr ⟨a,List.mem_cons_self,h.symm⟩
    ·exact .inl h
    ·exact .inr ⟨y,List.mem_cons_of_mem _ hy,h⟩
   ·rintro(h | ⟨y,hy,h⟩)
    ·exact .inl (.inr h)
    ·rcases List.mem_cons.1 hy with rfl | hy
     ·exact .inl (.inl h.symm)
     ·exact .inr ⟨y,hy,h⟩
theorem zi4:∀(l:List Op3) (o:List Int),o.Pairwise (· < ·)->(putsO o l).Pairwise (· < ·):=by
 intro l
 induction l with
 | nil=>intro o h;exact h
 | cons a r ih=>intro o h;exact ih _ (whomL_rise h a.1)
def zlS(s:za3)(x:Op3)(t:Int):Bool:=s.1.any (fun y=>y.1 == t && zgM y x) || (aheadL s.2 x.1).any (fun y=>y.1 == t && zgM y x)
def za4(s:za3)(x:Op3):Nat->List Int
 | 0=>[]
 | n+1=>if zlS s x ((n:Int)+1)=true then za4 s x n++[(n:Int)+1]else za4 s x n
theorem zjB(s:za3)(x:Op3)(t:Int):∀n:Nat,t∈za4 s x n↔(1<=t/\t<=n/\zlS s x t=true):=by
 intro n
 induction n with
 | zero => simp only[za4];constructor
           ·intro h;cases h
           ·rintro⟨h1,h2,_⟩;omega
 | succ n ih =>
   unfold za4;split
   ·rename_i hs;rw[List.mem_append,ih,List.mem_singleton];constructor
    ·rintro(⟨h1,h2,h3⟩ | rfl)
     ·exact⟨h1,by omega,h3⟩
     ·exact⟨by omega,by omega,hs⟩
    ·rintro⟨h1,h2,h3⟩;by_cases e:t=(n:Int)+1
     ·exact .inr e
     ·exact .inl ⟨h1,by omega,h3⟩
   ·rename_i hs;rw[ih];constructor
    ·rintro⟨h1,h2,h3⟩;exact⟨h1,by omega,h3⟩
    ·rintro⟨h1,h2,h3⟩;refine⟨h1,?_,h3⟩;by_cases e:t=(n:Int)+1
     ·rw[e]at h3;exact absurd h3 hs
     ·omega
theorem zns(s:za3)(x:Op3):∀n:Nat,(za4 s x n).Pairwise (· < ·):=by
 intro n
 induction n with
 | zero=>exact List.Pairwise.nil
 | succ n ih =>
   unfold za4;split
   ·refine List.pairwise_append.2 ⟨ih,List.pairwise_singleton _ _,fun a ha b hb=>?_⟩;rw[List.mem_singleton.1 hb];have:=(zjB s x a n).1 ha;omega
   ·exact ih
theorem zqF(s:za3)(x:Op3):∀n:Nat,(za4 s x n).length<=n:=by
 intro n
 induction n with
 | zero=>exact Nat.le_refl _
 | succ n ih =>
   unfold za4;split
   ·simp;omega
   ·omega
theorem zya{s:za3}{x:Op3}(h1:∀y∈s.1,zak y=true)(h2:∀y∈s.2,zak y=true):za4 s x 6=zyy s x:=by
 refine zsL _ _ (zns s x 6) (zi4 _ _ (zi4 _ _ List.Pairwise.nil)) fun t=>?_;rw[zjB];unfold zyy;rw[zmj,zmj];have hsub:∀y∈aheadL s.2 x.1,y∈s.2:=fun y hy=>(List.takeWhile_sublist _).subset hy;unfold zlS;rw[Bool.or_eq_true,List.any_eq_true,List.any_eq_true];constructor
 ·rintro⟨_,_,⟨y,hy,h⟩ | ⟨y,hy,h⟩⟩
  ·rw[Bool.and_eq_true,beq_iff_eq]at h;exact .inl (.inr ⟨y,List.mem_filter.2 ⟨hy,h.2⟩,h.1⟩)
  ·rw[Bool.and_eq_true,beq_iff_eq]at h;exact .inr ⟨y,List.mem_filter.2 ⟨hy,h.2⟩,h.1⟩
 ·rintro((h | ⟨y,hy,h⟩) | ⟨y,hy,h⟩)
  ·cases h
  ·obtain⟨hy,ho⟩:=List.mem_filter.1 hy;have hl:=h1 y hy;simp only[zak,Bool.and_eq_true,decide_eq_true_eq]at hl;exact⟨by omega,by have:=hl.1.2;omega,.inl ⟨y,hy,by rw[Bool.and_eq_true,beq_iff_eq];exact⟨h,ho⟩⟩⟩
  ·obtain⟨hy,ho⟩:=List.mem_filter.1 hy;have hl:=h2 y (hsub y hy);simp only[zak,Bool.and_eq_true,decide_eq_true_eq]at hl;exact⟨by omega,by have:=hl.1.2;omega,.inr ⟨y,hy,by rw[Bool.and_eq_true,beq_iff_eq];exact⟨h,ho⟩⟩⟩
end Go.Proofs.YthlhgiihngcobaaGreatDoor
namespace Go.Proofs.YthlhgiihngcobaaGreatDoor
open Go.RowKit
theorem ztl{l:List Op3}{k:Nat}(hk:k<l.length):l.take (k+1)=l.take k++[opAt l k]:=by
 rw[List.take_succ_eq_append_getElem hk];have:l[k]=opAt l k:=by simp[opAt,List.getD,List.getElem?_eq_getElem hk]
 rw[this]
theorem zqV{l:List Op3}{t:Int}:∀ {k:Nat},k<l.length->(∀j,j<k->(opAt l j).1≠t)->(opAt l k).1=t->aheadL l t=l.take k:=by
 induction l with
 | nil=>intro k hk;simp at hk
 | cons y r ih =>
   intro k hk hno he;cases k with
   | zero =>
     have:y.1=t:=by simpa[opAt,List.getD]using he
     simp[aheadL,this]
   | succ k =>
     have h0:y.1≠t:=by simpa[opAt,List.getD]using hno 0 (by omega)
     have h1:=ih (k:=k) (by simpa using hk) (fun j hj=>by simpa[opAt,List.getD]using hno (j+1) (by omega)) (by simpa[opAt,List.getD]using he);unfold aheadL at h1 ⊢;rw[List.takeWhile_cons,if_pos (by simpa using h0),h1,List.take_succ_cons]
theorem zug{l:List Op3}{t:Int}(h:∀j,j<l.length->(opAt l j).1≠t):aheadL l t=l:=by
 induction l with
 | nil=>rfl
 | cons y r ih =>
   have h0:y.1≠t:=by simpa[opAt,List.getD]using h 0 (by simp)
   have h1:=ih fun j hj=>by simpa[opAt,List.getD]using h (j+1) (by simpa using hj)
   unfold aheadL at h1 ⊢;rw[List.takeWhile_cons,if_pos (by simpa using h0),h1]
def zgO(w:World)(base:Nat)(v:Value)(l:List Int):Prop:=w.ownsRow base 3 1 v l.length (l.map (Value.int .i64))
theorem zgO.below{w w1:World}{base B:Nat}{v:Value}{l:List Int}(h:zgO w base v l)(hb:Below B w w1)(hB:w.heap.size<=B):zgO w1 base v l:=zaG h hb hB
theorem zgO.ints{w:World}{base:Nat}{v:Value}{l:List Int}(h:zgO w base v l):zaf w v l:=zap h rfl
theorem zgO.less{w:World}{base base2:Nat}{v:Value}{l:List Int}(h:zgO w base v l)(hb:base2<=base):zgO w base2 v l:=zhm h hb
theorem zxC(w:World)(base:Nat):zgO w base (.slice none 0 0) []:=World.ownsRow_nil _ _ _ _
end Go.Proofs.YthlhgiihngcobaaGreatDoor
namespace Go.Proofs.YthlhgiihngcobaaGreatDoor
open Go.RowKit
def zdp(s:za3)(t:Int):(List Op3 × Int) × za3:=if 1<=t/\t<=6 then(((freeT s t).2,0),(freeT s t).1)else(([],1),s)
def zmO(s:za3)(x:Op3):List Int × Int:=if zak x=true then(zyy s x,0)else([],1)
abbrev zgA(x:Op3):Value:=.agg #[.int .i64 x.1,.int .i64 x.2.1,.int .i64 x.2.2]
structure zvb(PT:World->Nat->(Nat->Prop)->za3->Prop):Prop where
 stays:∀ {w w':World} {T:Nat} {F:Nat->Prop} {s:za3} (G:Nat->Prop),PT w T F s->zac G w w'->(∀k,F k->¬G k)->PT w' T F s
 lt:∀ {w:World} {T:Nat} {F:Nat->Prop} {s:za3},PT w T F s->∀k,F k->k<w.heap.size
 new:∀w:World,Calls Tryz.prog 141 #[] w fun e w'=>∃T F,e=.returned (.pointer (some ⟨T,0,none⟩))/\PT w' T F ([],[])/\Below w.heap.size w w'/\∀k,F k->w.heap.size<=k
 ask:∀(w:World) (T:Nat) (F:Nat->Prop) (s:za3) (x:Op3),PT w T F s->s.1.length<=400->s.2.length<=400->Calls Tryz.prog 193 #[.pointer (some ⟨T,0,none⟩),zgA x] w fun e w'=>e=.returned (.tuple #[.bool (askT s x).1.1,zeH (askT s x).1.2])/\∃F',PT w' T F' (askT s x).2/\zac F w w'/\∀k,F' k->F k\/w.heap.size<=k
 whom:∀(w:World) (T:Nat) (F:Nat->Prop) (s:za3) (x:Op3),PT w T F s->s.1.length<=400->s.2.length<=400->Calls Tryz.prog 263 #[.pointer (some ⟨T,0,none⟩),zgA x] w fun e w'=>∃v',e=.returned (.tuple #[v',zeH (zmO s x).2])/\zaf w' v' (zmO s x).1/\Below w.heap.size w w'
theorem zvb.below{PT:World->Nat->(Nat->Prop)->za3->Prop}(h:zvb PT){w w':World}{T:Nat}{F:Nat->Prop}{s:za3}(hp:PT w T F s)(hb:Below w.heap.size w w'):PT w' T F s:=h.stays (fun _=>False) hp (zac.of_below hb) fun _ _ hf=>hf
end Go.Proofs.YthlhgiihngcobaaGreatDoor
