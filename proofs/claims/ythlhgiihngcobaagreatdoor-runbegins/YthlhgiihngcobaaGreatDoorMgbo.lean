/-
  PROVED HERE: graph.Reach tells whether there is a way of at least one edge; strict.lane's method isInRing, over a run in memory; strict.lane's method goOn, over a run in memory, if 'do' does what chapter 9 says; strict.lane's method free, over a run in memory, if goOn does what chapter 9 says.
  Conditions: none but those that each theorem's own premises say.
-/
import Derived.Test.YthlhgiihngcobaaGreatDoorMgbn
import Derived.Test.YthlhgiihngcobaaGreatDoorMgbm
import Derived.Test.YthlhgiihngcobaaGreatDoorMgan
set_option maxHeartbeats 32000000
set_option maxRecDepth 100000
namespace Go.Proofs.YthlhgiihngcobaaGreatDoor
open Go.RowKit
theorem zvF(l:List zab)(v:Value)(a b:Nat)(w:World)(hI:zaj w v l)(hc:gchk l=0)(ha:zeh a=true)(hb:zeh b=true):Calls Tryz.prog 262 #[v,.int .i64 a,.int .i64 b] w fun e w'=>∃x:Bool,e=.returned (.tuple #[.bool x,.nilIface])/\(x=true↔Way (stepsS l) a b)/\Below w.heap.size w w':=by have hl:=zpg hc;have HD:Hid (∀e∈l,(1<=e.1/\e.1<=6)/\(1<=e.2/\e.2<=6)):=zla hc;have ha6:=zfI.1 ha;have hb6:=zfI.1 hb;go_enter Tryz.func262,Tryz.ntmps262;go_wp2_with fail;refine(gcheck_ok l _ _ hI hc).mono ?_;rintro e w1 ⟨rfl,hb1⟩;go_wp2_with fail;refine(isDeal_any _ _).mono ?_;rintro e wx ⟨rfl,hwx⟩;rw[hwx,ha];clear hwx;go_wp2_with fail;refine(isDeal_any _ _).mono ?_;rintro e wx ⟨rfl,hwx⟩;rw[hwx,hb];clear hwx;go_wp2_with fail;refine(zm9 l _ _ (hI.below hb1 (Nat.le_refl _)) HD.out hl).mono ?_;rintro e w2 ⟨rfl,hb2⟩;have hb02:=hb1.trans (hb2.mono hb1.size);go_wp2_with fail;refine(reached_any a (stepsS l) _ (by omega)).mono ?_;rintro e w3 ⟨s',rfl,hs',hb3⟩;have hb03:=hb02.trans (hb3.mono hb02.size);have HW:Hid (s' b=true↔Way (stepsS l) a b):=zx0 (fun y z h=>by have:=(zdC HD.out h).2;omega) hs' b;have hidx:∀W,(Instr.index 194 (.agg #[.bool (s' 0),.bool (s' 1),.bool (s' 2),.bool (s' 3),.bool (s' 4),.bool (s' 5),.bool (s' 6)]) (.int .i64 b)).run Tryz.prog W=.ok (.bool (s' b)) W:=fun W=>zmh s' b (by omega) W;clear hs';go_wp2_with fail;go_ret2;exact⟨s' b,rfl,HW.out,hb03⟩
end Go.Proofs.YthlhgiihngcobaaGreatDoor
namespace Go.Proofs.YthlhgiihngcobaaGreatDoor
open Go.RowKit
theorem zBA(l:List zab)(v:Value)(a b:Nat)(w:World)(hI:zaj w v l)(hc:gchk l=0)(ha:zeh a=true)(hb:zeh b=true)(q:Bool)(hq:q=true↔Way (stepsS l) a b):Calls Tryz.prog 262 #[v,.int .i64 a,.int .i64 b] w fun e w'=>e=.returned (.tuple #[.bool q,.nilIface])/\Below w.heap.size w w':=by
 refine(zvF l v a b w hI hc ha hb).mono ?_;rintro e w' ⟨x,rfl,hx,hb'⟩
 obtain rfl:x=q:=by
  cases x <;> cases q
  ·rfl
  ·exact absurd (hx.2 (hq.1 rfl)) (by decide)
  ·exact absurd (hq.2 (hx.1 rfl)) (by decide)
  ·rfl
 exact⟨rfl,hb'⟩
theorem znr{l:List zab}(hl:l.length<=60)(hd:∀e∈l,(1<=e.1/\e.1<=6)/\(1<=e.2/\e.2<=6)):gchk l=0:=by unfold gchk;rw[if_neg (by omega),if_neg];intro h;obtain⟨e,he,hw⟩:=List.any_eq_true.1 h;have:=hd e he;simp[zdI,zeh]at hw;omega
theorem zkX{R:Nat}{way:Int}{r:zat}{P:Int->Option Op3}{c:Lay}{w:World}(h:zah w R way r (wm r P) c)(hf:zbw r P){t:Nat}(ht1:1<=t)(ht6:t<=6)(hl1:r.tab.1.length<=400)(hl2:r.tab.2.length<=400)(hw:∀d x,x∈zaN r.tab d->1<=x/\x<=6):Calls Tryz.prog 229 #[.pointer (some ⟨R,0,none⟩),.int .i64 t] w fun e w'=>e=.returned (.bool (zqi r.tab t))/\Below w.heap.size w w':=by
 have HF:Hid (∀W d,Below w.heap.size w W->1<=d->d<=6->Calls Tryz.prog 232 #[.pointer (some ⟨R,0,none⟩),.int .i64 d] W fun e w'=>∃v,e=.returned v/\zgO w' W.heap.size v (zaN r.tab d)/\Below W.heap.size W w'):=fun W d hW h1 h6=>zet (h.below hW) hf (zaX h1 h6) hl1 hl2;obtain⟨s,hs⟩:∃s,r.tab=s:=⟨_,rfl⟩;rw[hs]at HF hw ⊢;have HW:Hid (∀d x,x∈zaN s d->1<=x/\x<=6):=hw;have HRG:Hid (zqi s t=warTo (edgesK s 6) 6 t t):=rfl;obtain⟨i0,hi,hz0,hs0,hy0⟩:=info_parts zg9;have HI:Hid (Tryz.prog.info? 131=some i0/\i0.zero=some (.agg #[.int .i64 0,.int .i64 0])/\i0.size=2/\i0.bytes=16):=⟨hi,hz0,hs0,hy0⟩;clear hw hs hi hz0 hs0 hy0 h hf hl1 hl2;go_enter Tryz.func229,Tryz.ntmps229;go_wp2_with fail
 go_loopw [5,6] (fun v5 v6 wr=>∃k:Nat,k<=6/\v6=.int .i64 ((k:Int)+1)/\wr.ownsRow w.heap.size 131 2 v5 (edgesK s k).length (flatE (edgesK s k))/\Below w.heap.size w wr) (fun _ v6 _=>8-(intOf v6).toNat)
 case atStart=>exact⟨0,by omega,by go_num,World.ownsRow_nil _ _ _ _,Below.refl _ _⟩
 case round =>
  obtain⟨k,hk,rfl,hown,hbel⟩:=hrel;have HOWN:Hid (wr.ownsRow w.heap.size 131 2 u5 (edgesK s k).length (flatE (edgesK s k))):=hown;have HB:Hid (Below w.heap.size w wr):=hbel;clear hown hbel;by_cases hlt:k<6
  ·have hlt':(k:Int)+1<=6:=by omega
   go_wp2_with fail;refine(HF.out wr ((k:Int)+1) HB.out (by omega) (by omega)).mono ?_;rintro e w2 ⟨v2,rfl,hi2,hb2⟩;have HB2:Hid (Below w.heap.size w w2):=HB.out.trans (hb2.mono HB.out.size);have HO2:Hid (w2.ownsRow w.heap.size 131 2 u5 (edgesK s k).length (flatE (edgesK s k))):=zaG HOWN.out hb2 (Nat.le_refl _);obtain⟨ws,hws⟩:∃ws,zaN s ((k:Int)+1)=ws:=⟨_,rfl⟩;have HWS:Hid (zaN s ((k:Int)+1)=ws/\(edgesK s k).length<=36):=⟨hws,by have:=zjy HW.out k;omega⟩;have hws6:ws.length<=6:=by rw[<-hws];exact zhd HW.out _
   rw[hws]at hi2;have HI2:Hid (zgO w2 w.heap.size v2 ws):=hi2.less HB.out.size;obtain⟨ad,cap,hv2,-⟩:=zad hi2;subst hv2;clear hb2 hws HB HOWN hi2;go_wp2_with fail
   go_loopw [5,19] (fun v5 v8 wr=>∃j:Nat,j<=ws.length/\v8=.int .i64 j/\wr.ownsRow w.heap.size 131 2 v5 ((edgesK s k).length+j) (flatE (edgesK s k++(ws.take j).map fun x=>((k:Int)+1,x)))/\zgO wr w.heap.size (.slice ad ws.length cap) ws/\Below w.heap.size w wr) (fun _ v8 _=>ws.length-(intOf v8).toNat)
   case atStart=>exact⟨0,Nat.zero_le _,rfl,by simpa using HO2.out,HI2.out,HB2.out⟩
   case round =>
    obtain⟨j,hj,rfl,hown,hints,hbel⟩:=hrel;have HB3:Hid (Below w.heap.size w wr):=hbel;have HIN:Hid (zgO wr w.heap.size (.slice ad ws.length cap) ws):=hints;have hsz:w.heap.size<=wr.heap.size:=hbel.size;clear hbel;by_cases hjl:j<ws.length
    ·have hjl':(j:Int)<(ws.length:Int):=by omega
     obtain⟨g,hadr,-,-,-⟩:=(zad hints).elim fun _ h=>h.elim fun _ h=>by obtain⟨e,h⟩:=h;simp only[Value.slice.injEq,true_and]at e;obtain⟨rfl,rfl⟩:=e;exact h (by omega)
     subst hadr;obtain⟨x,hx⟩:∃x,ws.getD j 0=x:=⟨_,rfl⟩;have c0:wr.cell? ⟨g,j,none⟩=some (.int .i64 x):=by have h1:wr.ownsRow w.heap.size 3 1 (.slice (some ⟨g,0,none⟩) ws.length cap) ws.length (ws.map (Value.int .i64)):=hints;have h2:=h1.cells (g:=g) rfl j (.int .i64 x) (by rw[List.getElem?_map,List.getElem?_eq_getElem hjl,<-hx];simp[List.getD,hjl]);rw[Addr.add_lit,Nat.zero_add]at h2;exact h2
     have HX:Hid (ws.take (j+1)=ws.take j++[x]):=by show ws.take (j+1)=_;rw[List.take_succ_eq_append_getElem hjl,<-hx];simp[List.getD,hjl]
     obtain⟨n,hn⟩:∃n,(edgesK s k).length+j=n:=⟨_,rfl⟩;have hn1:n<=60:=by have:=HWS.out.2;omega
     have HN:Hid ((edgesK s k).length+j=n):=hn;rw[hn]at hown;have HOW:Hid (wr.ownsRow w.heap.size 131 2 u5 n (flatE (edgesK s k++(ws.take j).map fun x=>((k:Int)+1,x)))):=hown;clear hown hx hn hints;go_wp2_with (at_builtin;refine wpList_append_own _ rfl (.tmp 23) (.tmp 27) 89 rfl w.heap.size 131 i0 (.agg #[.int .i64 0,.int .i64 0]) 2 16 Tryz.underlying89 HI.out.1 HI.out.2.1 HI.out.2.2.1 HI.out.2.2.2 rfl (by decide) u5 n (flatE (edgesK s k++(ws.take j).map fun x=>((k:Int)+1,x))) rfl (HOW.out.alloc _) ⟨wr.heap.size,0,none⟩ 1 1 (flatE [((k:Int)+1,x)]) rfl rfl (zhe wr ((k:Int)+1) x) (zes _) (by unfold maxLen;omega) (by omega) (by simp;omega) ?_;intro v4 w4 hown4 hgr4 hnil4);have hb4:Below w.heap.size w w4:=(HB3.out.alloc hsz _).grown hgr4 (by simp;omega) fun q hq=>(HOW.out.lt q hq).1;have hi4:zgO w4 w.heap.size (.slice (some ⟨g,0,none⟩) ws.length cap) ws:=World.ownsRow.kept (World.ownsRow.alloc HIN.out _) hgr4 (zmw HIN.out HOW.out (by decide));go_roundw
     case rel=>exact⟨j+1,by omega,by go_num,by rw[<-Nat.add_assoc,HN.out,HX.out,List.map_append,<-List.append_assoc,zcf];exact hown4,hi4,hb4⟩
     case measure=>simp[intOf];omega
    ·have hjl':¬(j:Int)<(ws.length:Int):=by omega
     obtain rfl:j=ws.length:=by omega
     have HO3:Hid (wr.ownsRow w.heap.size 131 2 u5 (edgesK s (k+1)).length (flatE (edgesK s (k+1)))):=by show World.ownsRow _ _ _ _ _ _ _;rw[zh0,HWS.out.1,List.length_append,List.length_map];rw[List.take_length]at hown;exact hown
     clear hown hints;go_wp2_with fail;go_roundw
     case rel=>exact⟨k+1,by omega,by go_num,HO3.out,HB3.out⟩
     case measure=>simp[intOf];omega
  ·have hlt':¬(k:Int)+1<=6:=by omega
   obtain rfl:k=6:=by omega
   have hde:=zlC HW.out;have hle:(edgesK s 6).length<=60:=by have:=zjy HW.out 6;omega
   have hc0:=znr hle hde;have hdt:zeh (t:Int)=true:=by simp[zeh];omega
   have hway:=zy3 (l:=edgesK s 6) hde t t;obtain⟨q,hb⟩:∃q,warTo (edgesK s 6) 6 t t=q:=⟨_,rfl⟩;rw[hb]at HRG hway;have HRE:Hid (Calls Tryz.prog 262 #[u5,.int .i64 t,.int .i64 t] wr fun e w'=>e=.returned (.tuple #[.bool q,.nilIface])/\Below wr.heap.size wr w'):=zBA (edgesK s 6) u5 t t wr (zbL HOWN.out rfl) hc0 hdt hdt q hway;clear hde hle hc0 hdt hway hb;go_wp2_with fail;refine HRE.out.mono ?_;rintro e w2 ⟨rfl,hb2⟩;go_wp2_with fail;go_ret;exact⟨by rw[HRG.out];rfl,HB.out.trans (hb2.mono HB.out.size)⟩
end Go.Proofs.YthlhgiihngcobaaGreatDoor
namespace Go.Proofs.YthlhgiihngcobaaGreatDoor
open Go.RowKit
def DoL(way:Int)(n:Nat):Prop:=∀(R:Nat) (r:zat) (c:Lay) (P:Int->Option Op3) (o:Op3) (w:World),zah w R way r (wm r P) c->zb5 r->zbw r P->pot r<=46->sum6 r.behind<n->r.out o.1=false->r.waits o.1=false->isOpB o=true ->
 Calls Tryz.prog 144 #[.pointer (some ⟨R,0,none⟩),zgA o] w fun e w'=>e=.returned (.tuple #[])/\zav w w' R way c (doN way n r o) (wm (doN way n r o) P)
def GoL(way:Int)(n:Nat):Prop:=∀(R:Nat) (r:zat) (c:Lay) (P:Int->Option Op3) (d:Nat) (w:World),zah w R way r (wm r P) c->zb5 r->zbw r P->P (d:Int)=none->1<=d->d<=6->pot r<=47->sum6 r.behind<=n ->
 Calls Tryz.prog 222 #[.pointer (some ⟨R,0,none⟩),.int .i64 d] w fun e w'=>e=.returned (.tuple #[])/\zav w w' R way c (drainN (doN way n) (d:Int) (r.behind (d:Int)).length r) (wm (drainN (doN way n) (d:Int) (r.behind (d:Int)).length r) P)
structure zbV(w0 w:World)(R:Nat)(way:Int)(c0:Lay)(r:zat)(g:Int->Option Value)(c:Lay):Prop where
 run:zah w R way r g c
 turn:zac (feet R c0) w0 w
 feet:∀k,feet R c k->feet R c0 k\/w0.heap.size<=k
section
variable {w0 w w1:World} {R:Nat} {way:Int} {r r1:zat} {g g1:Int->Option Value} {c0 c c1:Lay}
theorem zbV.start(h:zah w R way r g c):zbV w w R way c r g c:=⟨h,zac.refl _ _,fun _ hk=>.inl hk⟩
theorem zbV.below(h:zbV w0 w R way c0 r g c)(hb:Below w.heap.size w w1):zbV w0 w1 R way c0 r g c:=⟨h.run.below hb,h.turn.then_below hb,h.feet⟩
theorem zbV.step(h:zbV w0 w R way c0 r g c)(hs:zav w w1 R way c r1 g1):∃c1,zbV w0 w1 R way c0 r1 g1 c1:=by
 obtain⟨c1,h1,h2,h3⟩:=hs;refine⟨c1,h1,h.turn.trans h2 fun k hk hk2=>?_,fun k hk=>?_⟩
 ·rcases h.feet k hk2 with h4 | h4
  ·exact h4
  ·omega
 ·rcases h3 k hk with h4 | h4
  ·exact h.feet k h4
  ·exact .inr (Nat.le_trans h.turn.size h4)
theorem zbV.to(h:zbV w0 w R way c0 r g c)(h1:zah w1 R way r1 g1 c1)(h2:zac (Go.Proofs.YthlhgiihngcobaaGreatDoor.feet R c) w w1)(h3:∀k,Go.Proofs.YthlhgiihngcobaaGreatDoor.feet R c1 k->Go.Proofs.YthlhgiihngcobaaGreatDoor.feet R c k\/w.heap.size<=k):zbV w0 w1 R way c0 r1 g1 c1:=by
 refine⟨h1,h.turn.trans h2 fun k hk hk2=>?_,fun k hk=>?_⟩
 ·rcases h.feet k hk2 with h4 | h4
  ·exact h4
  ·omega
 ·rcases h3 k hk with h4 | h4
  ·exact h.feet k h4
  ·exact .inr (Nat.le_trans h.turn.size h4)
theorem zbV.done(h:zbV w0 w R way c0 r g c):zav w0 w R way c0 r g:=⟨c,h.run,h.turn,h.feet⟩
theorem zbV.congr(h:zbV w0 w R way c0 r g c)(e:∀d,g1 d=g d):zbV w0 w R way c0 r g1 c:=⟨h.run.congr e,h.turn,h.feet⟩
end
theorem zjM{w:World}{base e n:Nat}{v:Value}{l:List Op3}(h:zfe w base e 3 v n (flat l))(hl:l.length=n):∃ad c,v=.slice ad n c/\(0<n->∃g off,ad=some ⟨g,off,none⟩/\base<=g/\g<w.heap.size/\n<=c/\w.cell? ⟨g,off,none⟩=some (.int .i64 (opAt l 0).1)/\w.cell? ⟨g,off+1,none⟩=some (.int .i64 (opAt l 0).2.1)/\w.cell? ⟨g,off+2,none⟩=some (.int .i64 (opAt l 0).2.2)):=by
 have h':=h;obtain⟨hx,⟨hv,hd⟩ | ⟨g,off,cap,cur,hv,hbg,hg,hnc,hcs,hcell⟩⟩:=h
 ·exact⟨none,0,by rw[hv,hd],fun h0=>by omega⟩
 ·refine⟨_,_,hv,fun h0=>⟨g,off,rfl,hbg,(Array.getElem?_eq_some_iff.1 hg).1,hnc,?_⟩⟩;obtain⟨a0,a1,a2⟩:=zgw l 0 (by omega);exact⟨hcell (0*3) _ a0,hcell (0*3+1) _ a1,hcell (0*3+2) _ a2⟩
theorem zah.look5{w:World}{R:Nat}{way:Int}{r:zat}{g:Int->Option Value}{c:Lay}(h:zah w R way r g c){d:Nat}(h1:1<=d)(h6:d<=6):(Instr.lookup 150 (.map (some c.B)) (.int .i64 d) false).run Tryz.prog w=.ok (c.bv (d:Int)) w:=by obtain⟨m,hm⟩:=h.beh;exact hm.look false Tryz.underlying150 (zb1 w) (zaX (by omega) (by omega))
theorem zBI(R:Nat){d:Nat}(h1:1<=d)(h6:d<=6):∃mu:World->Nat,∀ {w:World} {way:Int} {r:zat} {g:Int->Option Value} {c:Lay},zah w R way r g c->mu w=(r.behind (d:Int)).length:=by
 refine⟨fun w=>match w.cell? ⟨R,5,none⟩with
  | some m=>(match (Instr.lookup 150 m (.int .i64 d) false).run Tryz.prog w with | .ok (.slice _ n _) _=>n | _=>0)
  | none=>0,?_⟩
 intro w way r g c h;obtain⟨ad,q,hv,-⟩:=zjM (h.rows d (by omega)) rfl;dsimp only;rw[h.c5];simp only[h.look5 h1 h6,hv]
theorem ztk(r:zat){P:Int->Option Op3}{d:Int}(hp:P d=none):(wm r P d).isSome=r.waits d:=by
 unfold wm;cases hw:r.waits d with
 | true=>rw[if_pos ⟨rfl,hp⟩];rfl
 | false=>rw[if_neg (by simp)];rfl
theorem zro{r:zat}{d:Int}(h:r.behind d=[]):({ r with behind:=setF r.behind d [] }:zat)=r:=by
 have:setF r.behind d []=r.behind:=funext fun j=>by
  unfold setF;split
  ·rename_i e;rw[e,h]
  ·rfl
 rw[this]
theorem zah.dropBeh{w w1:World}{R:Nat}{way:Int}{r:zat}{g:Int->Option Value}{c:Lay}{m d:Nat}(hd:d<7)(h:zah w R way r g c)(hp:zax w1 c.B (setF c.h (d:Int) none) m)(ht:zac (fun k=>k=c.B) w w1):zav w w1 R way c { r with behind:=setF r.behind (d:Int) [] } g :=h.setBeh (w0:=w) (x:=none) (q:=[]) hd (zac.refl _ _) hp ht (zpM _ _ _ _) fun k hk=>by simp[Value.ownBlock]at hk
theorem zwW{way:Int}{n:Nat}(hD:DoL way n):GoL way n:=by
 intro R r c P d w h hg hf hp hd1 hd6 hpot hsum;have HD:=zag hD;have HDO:=zag (zhR way n);have HDF:=zag (zhh way n);have HP:=zag hp;have hwf:Wf (d:Int):=zaX (by omega) (by omega);obtain⟨mu,hmu⟩:=zBI R hd1 hd6;have HMU:Hid (∀ {w:World} {way:Int} {r:zat} {g:Int->Option Value} {c:Lay},zah w R way r g c->mu w=(r.behind (d:Int)).length):=hmu;clear hmu;obtain⟨TG,hTG⟩:∃TG,drainN (doN way n) (d:Int) (r.behind (d:Int)).length r=TG:=⟨_,rfl⟩;rw[hTG];have HST:Hid (∃(rm:zat) (cm:Lay),zbV w w R way c rm (wm rm P) cm/\zb5 rm/\zbw rm P/\pot rm<=47/\sum6 rm.behind<=n/\drainN (doN way n) (d:Int) (rm.behind (d:Int)).length rm=TG):=⟨r,c,zbV.start h,hg,hf,hpot,hsum,hTG⟩;clear hD h hg hf hp hpot hsum hTG;go_enter Tryz.func222,Tryz.ntmps222;go_wp2_with fail
 go_loopw [4] (fun _ wr=>∃(rm:zat) (cm:Lay),zbV w wr R way c rm (wm rm P) cm/\zb5 rm/\zbw rm P/\pot rm<=47/\sum6 rm.behind<=n/\drainN (doN way n) (d:Int) (rm.behind (d:Int)).length rm=TG) (fun _ wr=>mu wr)
 case atStart=>exact HST.out
 case round =>
  obtain⟨rm,cm,hsi,hgood,hfits,hpot,hsum,hdr⟩:=hrel;have HSI:=zag hsi;have HOK:=zag (And.intro hgood (And.intro hfits (And.intro hpot hsum)));have HDR:=zag hdr;obtain⟨ad7,c7,hv7,htl⟩:=zjM (hsi.run.rows d (by omega)) rfl;obtain⟨m5,hm5⟩:=hsi.run.beh;have HM5:Hid (∀W,Below wr.heap.size wr W->zax W cm.B cm.h m5):=fun W hW=>hm5.turn (zac.of_below (F:=fun _=>False) hW) fun hf=>hf;have HBV:Hid ((cm.h (d:Int)).getD (.slice none 0 0)=.slice ad7 (rm.behind (d:Int)).length c7):=hv7;have c5:=hsi.run.c5;have hRr:=hsi.run.lt;clear hsi hgood hfits hpot hsum hdr hm5;cases hb:rm.behind (d:Int)with
  | nil =>
    have HTE:Hid (rm=TG):=by show _=_;rw[<-HDR.out,zct (.inr hb)]
    have HBN:=zag (zro hb);rw[hb]at HBV;simp only[List.length_nil]at HBV;clear hb htl hv7;go_wp2_with (first | (at_lookup;refine zbO _ rfl (.tmp 8) (.tmp 9) 150 false rfl 28 Tryz.underlying150 (.slice none 0 0) (zb1 _) cm.B m5 cm.h rfl (HM5.out _ (Below.refl _ _)) (d:Int) rfl hwf (.slice ad7 0 c7) _ HBV.out rfl ?_) | (at_lookup;refine zbO _ rfl (.tmp 45) (.tmp 46) 150 false rfl 28 Tryz.underlying150 (.slice none 0 0) (zb1 _) cm.B m5 cm.h rfl (HM5.out _ (Below.refl _ _)) (d:Int) rfl hwf (.slice ad7 0 c7) _ HBV.out rfl ?_) | (at_delete;refine zna _ rfl (.tmp 53) (.tmp 54) 150 rfl 28 Tryz.underlying150 cm.B m5 cm.h rfl (HM5.out _ (Below.refl _ _)) (d:Int) rfl hwf ?_;intro w9 m9 hm9 ht9));go_end0;refine⟨rfl,?_⟩;have hst:=HSI.out.run.dropBeh (d:=d) (by omega) hm9 ht9;rw[HBN.out]at hst;obtain⟨c9,hc9⟩:=HSI.out.step hst;rw[<-HTE.out];exact hc9.done
  | cons o q =>
    have hwm:=ztk rm HP.out;cases hw:rm.waits (d:Int)with
    | true =>
      have HTE:Hid (rm=TG):=by show _=_;rw[<-HDR.out,zct (.inl hw)]
      rw[hb]at HBV;simp only[List.length_cons]at HBV;rw[hw]at hwm;have HIW:Hid (Calls Tryz.prog 143 #[.pointer (some ⟨R,0,none⟩),.int .i64 d] wr fun e w'=>e=.returned (.bool true)/\Below wr.heap.size wr w'):=by have:=zdw HSI.out.run (zny rm P) hwf;rw[hwm]at this;exact this
      have hql:(0:Int)<((q.length+1:Nat):Int):=by omega
      clear hb htl hv7 hw hwm;go_wp2_with (at_lookup;refine zbO _ rfl (.tmp 8) (.tmp 9) 150 false rfl 28 Tryz.underlying150 (.slice none 0 0) (zb1 _) cm.B m5 cm.h rfl (HM5.out _ (Below.refl _ _)) (d:Int) rfl hwf (.slice ad7 (q.length+1) c7) _ HBV.out rfl ?_);refine HIW.out.mono ?_;rintro e w1 ⟨rfl,hb1⟩;have c5':w1.cell? ⟨R,5,none⟩=some (.map (some cm.B)):=(HSI.out.run.below hb1).c5;have HB1:=zag hb1;clear hb1 c5 hRr;go_wp2_with (at_lookup;refine zbO _ rfl (.tmp 45) (.tmp 46) 150 false rfl 28 Tryz.underlying150 (.slice none 0 0) (zb1 _) cm.B m5 cm.h rfl (HM5.out _ HB1.out) (d:Int) rfl hwf (.slice ad7 (q.length+1) c7) _ HBV.out rfl ?_);go_end0;exact⟨rfl,by rw[<-HTE.out];exact(HSI.out.below HB1.out).done⟩
    | false =>
      obtain⟨p1,p2,p3,p4,p5,p6⟩:=zpk HOK.out.1 (show(1:Int)<=(d:Int)by omega) (show(d:Int)<=6 by omega) hb;have HPOP:=zag (And.intro p1 (And.intro p2 (And.intro p3 (And.intro p4 (And.intro p5 p6)))));have HNXT:=zag (zrn HDO.out (show(1:Int)<=(d:Int)by omega) (show(d:Int)<=6 by omega) HOK.out.1 hw hb);have HBE:Hid (rm.behind (d:Int)=o::q):=hb;have HWF:Hid (rm.waits (d:Int)=false):=hw;obtain⟨g7,off7,rfl,hg7b,hg7,hcap7,e0,e1,e2⟩:=htl (by rw[hb];simp);rw[hb]at HBV hcap7 e0 e1 e2;obtain⟨ot2,oa2,oi2⟩:=o;simp only[List.length_cons,opAt,List.getD,List.getElem?_cons_zero,Option.getD_some]at HBV hcap7 e0 e1 e2;rw[hw]at hwm;have HIW:Hid (Calls Tryz.prog 143 #[.pointer (some ⟨R,0,none⟩),.int .i64 d] wr fun e w'=>e=.returned (.bool false)/\Below wr.heap.size wr w'):=by have:=zdw HSI.out.run (zny rm P) hwf;rw[hwm]at this;exact this
      have hql:(0:Int)<((q.length+1:Nat):Int):=by omega
      have hql47:q.length+1<=47:=by have h1:=zyC (f:=rm.behind) (show(1:Int)<=(d:Int)by omega) (show(d:Int)<=6 by omega);have h2:=HOK.out.2.2.1;rw[hb]at h1;unfold pot at h2;simp only[List.length_cons]at h1;omega
      clear hb htl hv7 hw hwm p1 p2 p3 p4 p5 p6;go_wp2_with (at_lookup;refine zbO _ rfl (.tmp 8) (.tmp 9) 150 false rfl 28 Tryz.underlying150 (.slice none 0 0) (zb1 _) cm.B m5 cm.h rfl (HM5.out _ (Below.refl _ _)) (d:Int) rfl hwf (.slice (some ⟨g7,off7,none⟩) (q.length+1) c7) _ HBV.out rfl ?_);refine HIW.out.mono ?_;rintro e w1 ⟨rfl,hb1⟩;have c5':w1.cell? ⟨R,5,none⟩=some (.map (some cm.B)):=(HSI.out.run.below hb1).c5;have b0:=(hb1.cell (p:=⟨g7,off7,none⟩) hg7).trans e0;have b1:=(hb1.cell (p:=⟨g7,off7+1,none⟩) hg7).trans e1;have b2:=(hb1.cell (p:=⟨g7,off7+2,none⟩) hg7).trans e2;have HB1:=zag hb1;clear hb1 c5 hRr e0 e1 e2
      go_upto_region 2 with(at_lookup;refine zbO _ rfl (.tmp 22) (.tmp 23) 150 false rfl 28 Tryz.underlying150 (.slice none 0 0) (zb1 _) cm.B m5 cm.h rfl (HM5.out _ HB1.out) (d:Int) rfl hwf (.slice (some ⟨g7,off7,none⟩) (q.length+1) c7) _ HBV.out rfl ?_)
      obtain⟨W9,hW9⟩:∃W9,W9=w1.alloc (.cells #[.int .i64 ot2,.int .i64 oa2,.int .i64 oi2] 103):=⟨_,rfl⟩;rw[<-hW9];have hb9:Below wr.heap.size wr W9:=by rw[hW9];exact HB1.out.alloc HB1.out.size _
      have a0:W9.cell? ⟨w1.heap.size,0,none⟩=some (.int .i64 ot2):=by rw[hW9];simp
      have a1:W9.cell? ⟨w1.heap.size,1,none⟩=some (.int .i64 oa2):=by rw[hW9];simp
      have a2:W9.cell? ⟨w1.heap.size,2,none⟩=some (.int .i64 oi2):=by rw[hW9];simp
      have hP9:w1.heap.size<W9.heap.size:=World.block_lt_of_cell? W9 _ a0;obtain⟨Q,hQ⟩:∃Q,Q=w1.heap.size:=⟨_,rfl⟩;have hBQ:cm.B≠Q:=by have:=(HM5.out _ (Below.refl _ _)).lt;have:=HB1.out.size;omega
      rw[<-hQ]at a0 a1 a2 hP9 ⊢;have HS9:=zag (HSI.out.below hb9);have c5'':W9.cell? ⟨R,5,none⟩=some (.map (some cm.B)):=HS9.out.run.c5;have hm9:zax W9.drew cm.B cm.h m5:=HM5.out _ hb9.drew;have hlk:(Instr.lookup 150 (.map (some cm.B)) (.int .i64 d) false).run Tryz.prog W9.drew=.ok (.slice (some ⟨g7,off7,none⟩) (q.length+1) c7) W9.drew:=by have:=hm9.look false Tryz.underlying150 (zb1 _) hwf;rw[HBV.out]at this;exact this
      have hq1:(1:Int)<=((q.length+1:Nat):Int):=by omega
      have hq2:(1:Int)<=(c7:Int):=by omega
      have hq3:((q.length+1:Nat):Int)<=(c7:Int):=by omega
      obtain⟨X,hup,hmX,htX⟩:=hm9.store (v:=.slice (if c7=1 then some ⟨g7,off7,none⟩else some ⟨g7,off7+3,none⟩) q.length (c7-1)) Tryz.underlying150 (show(1:Int)<=(d:Int)by omega) (show(d:Int)<=6 by omega);have htX9:zac (fun k=>k=cm.B) W9 X:=⟨htX.os,htX.tape,htX.output,htX.size,htX.block⟩;have HMX:=zag hmX;have HTX:=zag htX9;have d0:X.cell? ⟨Q,0,none⟩=some (.int .i64 ot2):=(htX9.cell (p:=⟨Q,0,none⟩) hP9 (Ne.symm hBQ)).trans a0;have d1:X.cell? ⟨Q,1,none⟩=some (.int .i64 oa2):=(htX9.cell (p:=⟨Q,1,none⟩) hP9 (Ne.symm hBQ)).trans a1;have d2:X.cell? ⟨Q,2,none⟩=some (.int .i64 oi2):=(htX9.cell (p:=⟨Q,2,none⟩) hP9 (Ne.symm hBQ)).trans a2;clear hW9 hb9 hQ hm9 hmX htX htX9 c5' b0 b1 b2 hBQ;go_region
      all_goals
       obtain⟨sv,hsv⟩:∃sv,sv=Value.slice (if c7=1 then some ⟨g7,off7,none⟩else some ⟨g7,off7+3,none⟩) q.length (c7-1):=⟨_,rfl⟩;have hsvo:sv.ownBlock=some g7:=by rw[hsv];split <;> rfl
       have htl:zfe W9 0 103 3 sv q.length (flat q):=by
        have h1:=HS9.out.run.rows d (by omega);rw[HBE.out,show cm.bv (d:Int)=.slice (some ⟨g7,off7,none⟩) (q.length+1) c7 from HBV.out]at h1;have h2:zfe W9 0 103 3 (.slice (some ⟨g7,off7,none⟩) (q.length+1) c7) (q.length+1) (flat ((ot2,oa2,oi2)::q)):=h1;have hd3:(flat ((ot2,oa2,oi2)::q)).drop 3=flat q:=rfl;rw[<-hd3,hsv];by_cases h7:c7=1
        ·rw[if_pos h7];exact h2.pop _ (.inr ⟨h7,rfl⟩)
        ·rw[if_neg h7];exact h2.pop _ (.inl rfl)
       rw[<-hsv]at HMX ⊢;have hst:=HS9.out.run.setBeh (w0:=W9) (x:=some sv) (q:=q) (d:=d) (by omega) (zac.refl _ _) HMX.out HTX.out htl (fun k hk=>.inl (by rw[show cm.bv (d:Int)=.slice (some ⟨g7,off7,none⟩) (q.length+1) c7 from HBV.out];have hk2:sv.ownBlock=some k:=hk;rw[hsvo]at hk2;exact hk2));obtain⟨cp,hsp⟩:=HS9.out.step hst;have HSP:Hid (zbV w X R way c (zf9 rm (d:Int) q) (wm (zf9 rm (d:Int) q) P) cp):=hsp;have HLEN:Hid (mu wr=q.length+1):=by show _=_;rw[HMU.out HSI.out.run,HBE.out];rfl
       clear hsv hsvo htl hst hsp hlk hup a0 a1 a2 HS9 HSI HMX HTX c5'';go_wp2_with fail;have hpot46:pot (zf9 rm (d:Int) q)<=46:=by have:=HPOP.out.2.1;have:=HOK.out.2.2.1;omega
       have hsumn:sum6 (zf9 rm (d:Int) q).behind<n:=by have:=HPOP.out.2.2.1;have:=HOK.out.2.2.2;omega
       have hout:(zf9 rm (d:Int) q).out ((ot2,oa2,oi2):Op3).1=false:=by rw[HPOP.out.2.2.2.1];exact HPOP.out.2.2.2.2.2
       have hwts:(zf9 rm (d:Int) q).waits ((ot2,oa2,oi2):Op3).1=false:=by rw[HPOP.out.2.2.2.1];exact HWF.out
       have hfp:zbw (zf9 rm (d:Int) q) P:=HOK.out.2.1.behind _;refine(HD.out R (zf9 rm (d:Int) q) cp P (ot2,oa2,oi2) X HSP.out.run HPOP.out.1 hfp hpot46 hsumn hout hwts HPOP.out.2.2.2.2.1).mono ?_;rintro e Z ⟨rfl,hstz⟩;have hsd:=HDO.out (zf9 rm (d:Int) q) (ot2,oa2,oi2) HPOP.out.1 hout hwts HPOP.out.2.2.2.2.1;have hfd:=HDF.out (zf9 rm (d:Int) q) (ot2,oa2,oi2) P HPOP.out.1 hfp hout hwts HPOP.out.2.2.2.2.1;obtain⟨cq,hgq⟩:=HSP.out.step hstz;have HGQ:=zag hgq;have HSD:=zag hsd;have HFD:=zag hfd;clear hpot46 hsumn hout hwts hstz hsd hgq d0 d1 d2 hfd hfp;go_wp2_with fail;go_roundw
       case rel=>exact⟨_,cq,HGQ.out,HSD.out.good,HFD.out,by have:=HSD.out.pots;have:=HPOP.out.2.1;have:=HOK.out.2.2.1;omega,by have:=zdz HSD.out.less;have:=HPOP.out.2.2.1;have:=HOK.out.2.2.2;omega,HNXT.out.symm.trans HDR.out⟩
       case measure =>
        rw[HLEN.out,HMU.out HGQ.out.run];have h1:=HSD.out.less (d:Int);have h2:((zf9 rm (d:Int) q).behind (d:Int)).length=q.length:=by show(setF rm.behind (d:Int) q (d:Int)).length=_;rw[setF_same]
        omega
end Go.Proofs.YthlhgiihngcobaaGreatDoor
namespace Go.Proofs.YthlhgiihngcobaaGreatDoor
open Go.RowKit
def zBp(way:Int)(n:Nat):Prop:=∀(R:Nat) (r:zat) (g:Int->Option Value) (c:Lay) (P:Int->Option Op3) (t:Int) (w:World),zah w R way r g c->(∀d,d≠t->g d=wm r P d)->zep r P t->zb5 { r with tab:=(freeT r.tab t).1 }->r.tab.1.length<=100->r.tab.2.length<=100->1<=t->t<=6->pot r<=47->sum6 r.behind<=n ->
 Calls Tryz.prog 191 #[.pointer (some ⟨R,0,none⟩),.int .i64 t] w fun e w'=>e=.returned (.tuple #[])/\zav w w' R way c (zgk (doN way n) r t) (wm (zgk (doN way n) r t) P)
structure zb6(w0 w:World)(R:Nat)(way:Int)(c0:Lay)(v:Value)(L:List Op3)(r:zat)(g:Int->Option Value)(c:Lay):Prop where
 run:zbV w0 w R way c0 r g c
 row:w.ownsRow w0.heap.size 269 3 v L.length (flat L)
 so:∀q,v.ownBlock=some q->¬feet R c q
section
variable {w0 w w1:World} {R:Nat} {way:Int} {r r1:zat} {g g1:Int->Option Value} {c0 c c1:Lay} {v:Value} {L:List Op3}
theorem zb6.below(h:zb6 w0 w R way c0 v L r g c)(hb:Below w.heap.size w w1):zb6 w0 w1 R way c0 v L r g c:=⟨h.run.below hb,(zac.of_below (F:=fun _=>False) hb).own h.row fun _ _ hf=>hf,h.so⟩
theorem zb6.step(h:zb6 w0 w R way c0 v L r g c)(hs:zav w w1 R way c r1 g1):∃c1,zb6 w0 w1 R way c0 v L r1 g1 c1:=by
 obtain⟨c1,h1,h2,h3⟩:=hs;refine⟨c1,⟨h1,h.run.turn.trans h2 fun k hk hk2=>?_,fun k hk=>?_⟩,h2.own h.row fun q hq=>h.so q hq,fun q hq hk=>?_⟩
 ·rcases h.run.feet k hk2 with h4 | h4
  ·exact h4
  ·omega
 ·rcases h3 k hk with h4 | h4
  ·exact h.run.feet k h4
  ·exact .inr (Nat.le_trans h.run.turn.size h4)
 ·rcases h3 q hk with h4 | h4
  ·exact h.so q hq h4
  ·have:=(h.row.lt q hq).2;omega
theorem zb6.congr(h:zb6 w0 w R way c0 v L r g c)(e:∀d,g1 d=g d):zb6 w0 w R way c0 v L r g1 c:=⟨h.run.congr e,h.row,h.so⟩
theorem zah.as(h:zah w R way r g c)(h1:r1.tab=r.tab)(h2:r1.told=r.told)(h3:r1.vict=r.vict)(h4:r1.behind=r.behind):zah w R way r1 g c :=⟨h.blk,by rw[h1];exact h.tab,by rw[h2];exact h.told,by rw[h3];exact h.outs,h.wts,h.beh,fun d hd=>by rw[h4];exact h.rows d hd,h.apart⟩
theorem zb6.as(h:zb6 w0 w R way c0 v L r g c)(h1:r1.tab=r.tab)(h2:r1.told=r.told)(h3:r1.vict=r.vict)(h4:r1.behind=r.behind):zb6 w0 w R way c0 v L r1 g c:=⟨⟨h.run.run.as h1 h2 h3 h4,h.run.turn,h.run.feet⟩,h.row,h.so⟩
theorem zah.freed{F1:Nat->Prop}{s1:za3}(h:zah w R way r g c)(hr:w1.ownsRow w.heap.size 269 3 v L.length (flat L))(hp:zrw w1 c.T F1 s1)(ht:zac c.F w w1)(hf:∀k,F1 k->c.F k\/w.heap.size<=k)(hso:∀q,v.ownBlock=some q->¬F1 q):∃c1,zb6 w w1 R way c v L { r with tab:=s1 } g c1:=by
 have ht2:zac (ofs R c fun j=>j=1) w w1:=zha (i:=1) (by omega) ht;have hst:=h.setTab hp ht hf
 have hat:zah w1 R way { r with tab:=s1 } g { c with F:=F1 }:=by
  refine⟨h.blkT ht2 (h.keep (by omega) (by omega)),hp,h.toldT ht2 (h.keep (by omega) (by omega)),h.outsT ht2 (h.keep (by omega) (by omega)),h.wtsT ht2 (h.keep (by omega) (by omega)),h.behT ht2 (h.keep (by omega) (by omega)),fun d hd=>h.rowsT ht2 hd (h.keep (by omega) (by omega)),fun i j k hi hj hij h1 h2=>?_⟩
  have hpp:∀i,i<13->zfD R { c with F:=F1 } i k->zfD R c i k\/(i=1/\w.heap.size<=k):=fun i hi hk=>by
   match i,hk with
   | 0,hk=>exact .inl hk
   | 1,hk =>
     rcases hf k hk with h3 | h3
     ·exact .inl h3
     ·exact .inr ⟨rfl,h3⟩
   | 2,hk=>exact .inl hk
   | 3,hk=>exact .inl hk
   | 4,hk=>exact .inl hk
   | 5,hk=>exact .inl hk
   | d+6,hk=>exact .inl hk
  rcases hpp i hi h1 with h3 | ⟨h3,h4⟩
  ·rcases hpp j hj h2 with h5 | ⟨h5,h6⟩
   ·exact h.apart i j k hi hj hij h3 h5
   ·have:=h.part_lt i k hi h3;omega
  ·rcases hpp j hj h2 with h5 | ⟨h5,h6⟩
   ·have:=h.part_lt j k hj h5;omega
   ·exact hij (h3.trans h5.symm)
 have hfe:∀k,feet R { c with F:=F1 } k->F1 k\/feet R c k:=fun k ⟨i,hi,hk⟩=>by
  match i,hk with
  | 0,hk=>exact .inr ⟨0,by omega,hk⟩
  | 1,hk=>exact .inl hk
  | 2,hk=>exact .inr ⟨2,by omega,hk⟩
  | 3,hk=>exact .inr ⟨3,by omega,hk⟩
  | 4,hk=>exact .inr ⟨4,by omega,hk⟩
  | 5,hk=>exact .inr ⟨5,by omega,hk⟩
  | d+6,hk=>exact .inr ⟨d+6,hi,hk⟩
 refine⟨_,⟨hat,ht.mono fun k _ hk=>⟨1,by omega,hk⟩,fun k hk=>?_⟩,hr,fun q hq hk=>?_⟩
 ·rcases hfe k hk with h1 | h1
  ·rcases hf k h1 with h2 | h2
   ·exact .inl ⟨1,by omega,h2⟩
   ·exact .inr h2
  ·exact .inl h1
 ·rcases hfe q hk with h1 | h1
  ·exact hso q hq h1
  ·have:=h.feet_lt h1;have:=(hr.lt q hq).1;omega
end
theorem zgd{α:Type}(f:α->Op3->α)(a:α){L:List Op3}{k:Nat}(hk:k<L.length):(L.take (k+1)).foldl f a=f ((L.take k).foldl f a) (opAt L k):=by rw[List.take_succ_eq_append_getElem hk,List.foldl_append];simp[opAt,List.getD,List.getElem?_eq_getElem hk]
theorem zp9{L:List Op3}{k:Nat}(hk:k<L.length):L.drop k=opAt L k::L.drop (k+1):=by rw[List.drop_eq_getElem_cons hk];simp[opAt,List.getD,List.getElem?_eq_getElem hk]
def zew(g:Int->Option Value)(l:List Op3):Int->Option Value:=l.foldl (fun f x=>setF f x.1 none) g
theorem zto:∀(l:List Op3) (g:Int->Option Value) (d:Int),zew g l d=if l.any (fun x=>x.1 == d)=true then none else g d:=by
 intro l
 induction l with
 | nil=>intro g d;rfl
 | cons x q ih =>
   intro g d;show zew (setF g x.1 none) q d=_;rw[ih,List.any_cons];by_cases h:(q.any fun x=>x.1 == d)=true
   ·rw[if_pos h,if_pos (by rw[h];simp)]
   ·rw[if_neg h];by_cases e:d=x.1
    ·rw[e,setF_same,if_pos (by simp)]
    ·rw[zaa _ _ e,if_neg (by simp only[Bool.or_eq_true,beq_iff_eq,not_or];exact⟨fun e2=>e e2.symm,h⟩)]
theorem zy7{r:zat}{P:Int->Option Op3}{t:Int}{g:Int->Option Value}{L:List Op3}{s:za3}(hg:∀d,d≠t->g d=wm r P d)(ht:r.waits t=false)(d:Int):wm { r with tab:=s } (zdN P L) d=zew (setF g t none) L d:=by
 rw[zto];by_cases h:(L.any fun x=>x.1 == d)=true
 ·rw[if_pos h];unfold wm;rw[if_neg];intro h2;obtain⟨x,hx,he⟩:=List.any_eq_true.1 h;exact(zif.1 h2.2).2 x hx (by simpa using he)
 ·rw[if_neg h];have hoff:zdN P L d=P d:=zhg fun y hy e=>h (List.any_eq_true.2 ⟨y,hy,by simp[e]⟩);by_cases e:d=t
  ·subst e;rw[setF_same];unfold wm;rw[if_neg (by simp[ht])]
  ·rw[zaa _ _ e,hg d e];unfold wm;rw[hoff]
theorem zz2{r:zat}{P:Int->Option Op3}{x:Op3}{l:List Op3}(hw:r.waits x.1=false)(d:Int):wm r (zdN P l) d=wm r (zdN P (x::l)) d:=by
 unfold wm;by_cases e:d=x.1
 ·rw[e,if_neg (by simp[hw]),if_neg (by simp[hw])]
 ·rw[zck P x l e]
theorem zBk{r:zat}{P:Int->Option Op3}{x:Op3}{l:List Op3}(d:Int):wm (gotR r x.1) (zdN P l) d=wm r (zdN P (x::l)) d:=by
 unfold wm gotR;by_cases e:d=x.1
 ·subst e;simp only[setF_same,zig];rw[if_neg (by simp),if_neg (by simp)]
 ·simp only[zaa _ _ e,zck P x l e]
def zf2(w:World)(Q:Nat)(x:Op3):Prop:=w.cell? ⟨Q,0,none⟩=some (.int .i64 x.1)/\w.cell? ⟨Q,1,none⟩=some (.int .i64 x.2.1)/\w.cell? ⟨Q,2,none⟩=some (.int .i64 x.2.2)
theorem zf2.lt{w:World}{P:Nat}{x:Op3}(h:zf2 w P x):P<w.heap.size:=World.block_lt_of_cell? w _ h.1
theorem zf2.turn{w w1:World}{F:Nat->Prop}{P:Nat}{x:Op3}(h:zf2 w P x)(ht:zac F w w1)(hF:¬F P):zf2 w1 P x :=⟨(ht.cell (p:=⟨P,0,none⟩) h.lt hF).trans h.1,(ht.cell (p:=⟨P,1,none⟩) h.lt hF).trans h.2.1,(ht.cell (p:=⟨P,2,none⟩) h.lt hF).trans h.2.2⟩
theorem zf2.below{w w1:World}{P:Nat}{x:Op3}(h:zf2 w P x)(hb:Below w.heap.size w w1):zf2 w1 P x:=h.turn (zac.of_below (F:=fun _=>False) hb) fun hf=>hf
theorem zfL(w:World)(t i m:Int)(T:TypeId):zf2 (w.alloc (.cells #[.int .i64 t,.int .i64 i,.int .i64 m] T)) w.heap.size (t,i,m):=by refine⟨?_,?_,?_⟩ <;> simp
theorem zhU{way:Int}{n:Nat}(hD:DoL way n):zBp way n:=by
 intro R r g c P t w h hgw hfb hg hl1 hl2 ht1 ht6 hp hs;have HGO:=zag (zwW hD);have HDO:=zag (zhR way n);have HDF:=zag (zhh way n);have hwt:Wf t:=zaX ht1 ht6;obtain⟨r0,hr0⟩:∃r0:zat,r0={ r with tab:=(freeT r.tab t).1 }:=⟨_,rfl⟩;obtain⟨L,hL⟩:∃L,(freeT r.tab t).2=L:=⟨_,rfl⟩;have HTGT:Hid (zgk (doN way n) r t=L.foldl (zbR (doN way n)) r0):=by show zgk _ _ _=_;unfold zgk;rw[hL,hr0]
 have HFU:Hid (zdp r.tab t=((L,0),r0.tab)):=by show zdp _ _=_;unfold zdp;rw[if_pos ⟨ht1,ht6⟩,hL,hr0]
 have hF0:=hfb.free;rw[hL,<-hr0]at hF0;have HF0:=zag hF0;have HWM:Hid (∀d,wm r0 (zdN P L) d=zew (setF g t none) L d):=fun d=>by rw[hr0];exact zy7 hgw hfb.not d
 have hap:=zgq hfb.ok t;rw[List.pairwise_append,hL]at hap;have HLA:=zag hap.2.1;have hid0:=hfb.idle;rw[hL]at hid0;have HLI:=zag hid0;have HLK:Hid (∀x∈L,zak x=true):=fun x hx=>hfb.ok.locks.2 x (mem_free.2.2 (hL.symm ▸hx)).1;have hll:L.length<=100:=by rw[<-hL];have h1:=(zjh (withoutL r.tab.2 t) ((withoutL r.tab.1 t,[]),[])).2.2;have h2:(withoutL r.tab.2 t).length<=r.tab.2.length:=List.length_filter_le _ _;show(grants ((withoutL r.tab.1 t,[]),[]) (withoutL r.tab.2 t)).2.length<=100;simp only[List.length_nil]at h1;omega
 have HGK:Hid (∀k,zb5 ((L.take k).foldl (zbR (doN way n)) r0)/\pot ((L.take k).foldl (zbR (doN way n)) r0)<=47/\sum6 ((L.take k).foldl (zbR (doN way n)) r0).behind<=n):=fun k=>by
  have h1:=zim (zhR way n) (L.take k) r0 (hr0 ▸hg);refine⟨h1.good,?_,Nat.le_trans (zdz h1.less) (by rw[hr0];exact hs)⟩;have h2:=h1.pots;have h3:pot r0=pot r:=by rw[hr0];rfl
  omega
 have HFR:Hid (Calls Tryz.prog 220 #[.pointer (some ⟨c.T,0,none⟩),.int .i64 t] w fun e w'=>∃ad q c1,e=.returned (.tuple #[.slice ad L.length q,.nilIface])/\zb6 w w' R way c (.slice ad L.length q) L r0 g c1):=by refine(ztV w c.T c.F r.tab t h.tab (by omega) (by omega)).mono ?_;rw[HFU.out];rintro e w' ⟨v',rfl,hr,F',h1,h2,h3,h4⟩;obtain⟨ad,q,rfl,-⟩:=zad hr;obtain⟨c1,hc1⟩:=h.freed hr h1 h2 h3 h4;exact⟨ad,q,c1,rfl,by rw[hr0];rw[hr0]at hc1;exact hc1⟩
 have c1':=h.c1;have c4':=h.c4;have hRl:=h.lt;clear hD h hg hl1 hl2 hp hs hr0 hL hF0 hap hid0 hfb hgw;go_enter Tryz.func191,Tryz.ntmps191;go_wp2_with fail;refine HFR.out.mono ?_;rintro e w1 ⟨ad1,q1,c1,rfl,hc1⟩;have HC1:=zag hc1;have k4:=hc1.run.run.c4;obtain⟨m4,hm4⟩:=hc1.run.run.wts;have HM4:=zag hm4;clear hc1 hm4 HFR c1' c4' hRl;go_wp2_with (at_delete;refine zna _ rfl (.tmp 22) (.tmp 23) 149 rfl 269 Tryz.underlying149 c1.W m4 g rfl HM4.out t rfl hwt ?_;intro w2 m2 hm2 ht2);obtain⟨c2,hc2⟩:=HC1.out.step (HC1.out.run.run.setWts hm2 ht2);have HC2:=zag hc2;clear hc2 hm2 ht2 k4 HC1 HM4
 go_loopw [26] (fun v26 wr=>∃(k:Nat) (ck:Lay),k<=L.length/\v26=.int .i64 k/\zb6 w wr R way c (.slice ad1 L.length q1) L r0 (zew (setF g t none) (L.take k)) ck) (fun v26 _=>L.length-(intOf v26).toNat)
 case atStart=>exact⟨0,c2,Nat.zero_le _,rfl,HC2.out⟩
 case round =>
  obtain⟨k,ck,hk,rfl,hck⟩:=hrel;have HCK:=zag hck;have k4:=hck.run.run.c4;have hRr:=hck.run.run.lt;clear hck HC2;by_cases hlt:k<L.length
  ·have hlt':(k:Int)<(L.length:Int):=by omega
   obtain⟨gq,cq,hvq,-,hgl,-,e0,e1,e2⟩:=zdj HCK.out.row rfl hlt;simp only[Value.slice.injEq]at hvq;obtain⟨rfl,-,rfl⟩:=hvq;obtain⟨⟨xt,xi,xm⟩,hx⟩:∃x,opAt L k=x:=⟨_,rfl⟩;have HX:=zag hx;have hxl:zak (xt,xi,xm)=true:=by rw[<-hx];exact HLK.out _ (zal hlt)
   have hxr:1<=xt/\xt<=6:=by simp[zak]at hxl;omega
   have hwx:Wf xt:=zaX hxr.1 hxr.2;rw[hx]at e0 e1 e2;simp only at e0 e1 e2;clear hx hxl
   go_upto_region 5 with(fail)
   obtain⟨W,hW⟩:∃W,W=wr.alloc (.cells #[.int .i64 xt,.int .i64 xi,.int .i64 xm] 269):=⟨_,rfl⟩;rw[<-hW];have hbW:Below wr.heap.size wr W:=by rw[hW];exact(Below.refl _ wr).alloc (Nat.le_refl _) _
   have p0:W.cell? ⟨wr.heap.size,0,none⟩=some (.int .i64 xt):=by rw[hW];simp
   have HCW:=zag (HCK.out.below hbW);have k4':W.cell? ⟨R,4,none⟩=some (.map (some ck.W)):=HCW.out.run.run.c4;obtain⟨m4,hm4⟩:=HCW.out.run.run.wts;have HMW:Hid (zax W.drew ck.W (zew (setF g t none) (L.take k)) m4):=hm4;have HNX:Hid (zew (setF g t none) (L.take (k+1))=setF (zew (setF g t none) (L.take k)) xt none):=by show zew _ _=_;unfold zew;rw[zgd _ _ hlt,HX.out]
   have hPW:wr.heap.size<W.heap.size:=World.block_lt_of_cell? W _ p0;clear hW hbW hm4 k4 e0 e1 e2 hgl
   go_region_law (refine ztB _ rfl (.tmp 33) (.tmp 35) 149 rfl 269 Tryz.underlying149 ck.W m4 (zew (setF g t none) (L.take k)) (by simp[Act.eval]) HMW.out xt (by simp[Act.eval]) hwx ?_;intro w3 m3 hm3 ht3)
   all_goals
    have ht3':zac (fun j=>j=ck.W) W w3:=⟨ht3.os,ht3.tape,ht3.output,ht3.size,ht3.block⟩;obtain⟨c3,hc3⟩:=HCW.out.step (HCW.out.run.run.setWts hm3 ht3');have HC3:=zag hc3;clear hm3 ht3 ht3' hc3 p0 k4' hPW;go_wp2_with fail;go_roundw
    case rel=>exact⟨k+1,c3,by omega,by go_num,by rw[HNX.out];exact HC3.out⟩
    case measure=>simp[intOf];omega
  ·have hlt':¬(k:Int)<(L.length:Int):=by omega
   obtain rfl:k=L.length:=by omega
   have HS2:Hid (zb6 w wr R way c (.slice ad1 L.length q1) L r0 (wm r0 (zdN P L)) ck):=by have h1:=HCK.out;rw[List.take_length]at h1;exact h1.congr HWM.out
   clear HCK k4 hRr hk hlt;go_wp2_with fail
   go_loopw [39] (fun v39 wr=>∃(k:Nat) (ck:Lay),k<=L.length/\v39=.int .i64 k/\zb6 w wr R way c (.slice ad1 L.length q1) L ((L.take k).foldl (zbR (doN way n)) r0) (wm ((L.take k).foldl (zbR (doN way n)) r0) (zdN P (L.drop k))) ck/\zbw ((L.take k).foldl (zbR (doN way n)) r0) (zdN P (L.drop k))) (fun v39 _=>L.length-(intOf v39).toNat)
   case atStart=>exact⟨0,ck,Nat.zero_le _,rfl,HS2.out,HF0.out⟩
   case round =>
    obtain⟨k,ck,hk,rfl,hck,hfk⟩:=hrel;have hgk:=HGK.out k;obtain⟨rk,hrk⟩:∃rk,(L.take k).foldl (zbR (doN way n)) r0=rk:=⟨_,rfl⟩;rw[hrk]at hck hfk hgk;have HRK:=zag hrk;have HCK:=zag hck;have HFK:=zag hfk;have HGK2:=zag hgk;clear hrk hck hfk hgk HS2;by_cases hlt:k<L.length
    ·have hlt':(k:Int)<(L.length:Int):=by omega
     obtain⟨gq,cq,hvq,-,hgl,-,e0,e1,e2⟩:=zdj HCK.out.row rfl hlt;simp only[Value.slice.injEq]at hvq;obtain⟨rfl,-,rfl⟩:=hvq;obtain⟨⟨xt,xi,xm⟩,hx⟩:∃x,opAt L k=x:=⟨_,rfl⟩;have HX:=zag hx;have hxl:zak (xt,xi,xm)=true:=by rw[<-hx];exact HLK.out _ (zal hlt)
     have hxr:1<=xt/\xt<=6:=by simp[zak]at hxl;omega
     have HXM:Hid (((xt,xi,xm):Op3).2.2=1\/((xt,xi,xm):Op3).2.2=2):=by have:=zfi hxl;show xm=1\/xm=2;simp only at this;omega
     have hwx:Wf xt:=zaX hxr.1 hxr.2;rw[hx]at e0 e1 e2;simp only at e0 e1 e2;have hdc:=zp9 hlt;rw[hx]at hdc;have HLX:Hid ((∀y∈L.drop (k+1),y.1≠((xt,xi,xm):Op3).1)/\P ((xt,xi,xm):Op3).1=none):=by refine⟨fun y hy e=>?_,HLI.out _ (by rw[<-hx];exact zal hlt)⟩;have h1:(L.drop k).Pairwise fun a b=>a.1≠b.1:=HLA.out.sublist (List.drop_sublist _ _);rw[hdc,List.pairwise_cons]at h1;exact h1.1 y hy e.symm
     have HNX:Hid ((L.take (k+1)).foldl (zbR (doN way n)) r0=zbR (doN way n) rk (xt,xi,xm)):=by show List.foldl _ _ _=_;rw[zgd _ _ hlt,HRK.out,HX.out]
     rw[hdc]at HCK HFK;clear hx hxl hdc;obtain⟨dx,rfl⟩:∃d:Nat,xt=d:=⟨xt.toNat,by omega⟩;have hd1:1<=dx:=by omega
     have hd6:dx<=6:=by omega
     go_upto_region 10 with(fail)
     obtain⟨W,hW⟩:∃W,W=wr.alloc (.cells #[.int .i64 (dx:Int),.int .i64 xi,.int .i64 xm] 269):=⟨_,rfl⟩;rw[<-hW];have hbW:Below wr.heap.size wr W:=by rw[hW];exact(Below.refl _ wr).alloc (Nat.le_refl _) _
     have hbx:zf2 W wr.heap.size ((dx:Int),xi,xm):=by rw[hW];exact zfL _ _ _ _ _
     have HCW:=zag (HCK.out.below hbW);obtain⟨Q,hQ⟩:∃Q,Q=wr.heap.size:=⟨_,rfl⟩;have HQF:Hid (¬feet R ck Q):=fun hk=>by have:=HCK.out.run.run.feet_lt hk;omega
     rw[<-hQ]at hbx ⊢;have HBX:=zag hbx;obtain⟨p0,p1,p2⟩:=hbx;simp only at p0 p1 p2;have hPW:Q<W.heap.size:=World.block_lt_of_cell? W _ p0;have hab:=zfA HCW.out.run.run hwx;cases ho:rk.out (dx:Int)with
     | true =>
       have hmem:(dx:Int)∈rk.vict:=(HFK.out.vict _).1 ho;rw[decide_eq_true hmem]at hab;have HAB:=zag hab;have hwf2:=HFK.out.out _ ho;have HNO:=zag (zlJ (doF:=doN way n) (x:=((dx:Int),xi,xm)) hwf2);have HFN:=zag (HFK.out.skip ho HLX.out.1 HLX.out.2);have HWN:Hid (∀d,wm rk (zdN P (L.drop (k+1))) d=wm rk (zdN P (((dx:Int),xi,xm)::L.drop (k+1))) d):=fun d=>zz2 hwf2 d;clear hW hbW hQ hab hmem ho hwf2 e0 e1 e2 hgl;go_wp2_with fail;refine HAB.out.mono ?_;rintro e w3 ⟨rfl,hw3⟩;rw[hw3];clear hw3;go_wp2_with fail;go_roundw
       case rel=>exact⟨k+1,ck,by omega,by go_num,by rw[HNX.out,HNO.out];exact HCW.out.congr HWN.out,by rw[HNX.out,HNO.out];exact HFN.out⟩
       case measure=>simp[intOf];omega
     | false =>
       have hmem:¬(dx:Int)∈rk.vict:=fun hm=>by rw[(HFK.out.vict _).2 hm]at ho;cases ho
       rw[decide_eq_false hmem]at hab;have HAB:=zag hab;obtain⟨g1,g2,g3⟩:=HFK.out.got ho HLX.out.1 HLX.out.2;have HGY:=zag (zi8 (doF:=doN way n) (x:=((dx:Int),xi,xm)) g1);have HGT:Hid (zb5 (gotR rk (dx:Int))/\pot (gotR rk (dx:Int))<=47/\sum6 (gotR rk (dx:Int)).behind<=n):=by obtain⟨a1,a2⟩:=zyo HGK2.out.1 g1;exact⟨a1,Nat.le_trans a2 HGK2.out.2.1,HGK2.out.2.2⟩
       have HFG:Hid (zbw (gotR rk (dx:Int)) (zdN P (L.drop (k+1)))):=g3;have HOP:Hid (rk.op (dx:Int)=((dx:Int),xm,xi)):=by show _=_;have:=congrArg zea g2;rw[ztQ]at this;exact this.symm
       have HWN:Hid (∀d,wm (gotR rk (dx:Int)) (zdN P (L.drop (k+1))) d=wm rk (zdN P (((dx:Int),xi,xm)::L.drop (k+1))) d):=fun d=>zBk (x:=((dx:Int),xi,xm)) d;have HPN:Hid (zdN P (L.drop (k+1)) (dx:Int)=none):=by show _=none;rw[zhg HLX.out.1];exact HLX.out.2
       have hl47:rk.told.length<=47:=by have:=HGK2.out.2.1;unfold pot at this;omega
       have HOO:Hid (Calls Tryz.prog 221 #[.agg #[.int .i64 (dx:Int),.int .i64 xi,.int .i64 xm]] W fun e w'=>e=.returned (.agg #[.int .i64 (dx:Int),.int .i64 xm,.int .i64 xi])/\Below W.heap.size W w'):=zwY ((dx:Int),xi,xm) HXM.out W;clear hW hbW hQ hab hmem ho e0 e1 e2 hgl g1 g2 g3;go_wp2_with fail;refine HAB.out.mono ?_;rintro e w3 ⟨rfl,hw3⟩;rw[hw3];clear hw3 HAB;go_wp2_with fail;refine HOO.out.mono ?_;rintro e w4 ⟨rfl,hb4⟩;have HC4:=zag (HCW.out.below hb4);have HB4:=zag (HBX.out.below hb4);clear hb4 p0 p1 p2 HCW HBX HOO hPW;go_wp2_with fail;refine(tell_run ((dx:Int),xm,xi) HC4.out.run.run hl47).mono ?_;rintro e w5 ⟨rfl,hst5⟩;have hbx5:zf2 w5 Q ((dx:Int),xi,xm):=by obtain⟨_,_,h1,_⟩:=hst5;exact HB4.out.turn h1 HQF.out
       obtain⟨c5,hc5⟩:=HC4.out.step hst5;have HC5:Hid (zb6 w w5 R way c (.slice (some ⟨gq,0,none⟩) L.length q1) L (gotR rk (dx:Int)) (wm (gotR rk (dx:Int)) (zdN P (L.drop (k+1)))) c5):=by have h1:=hc5.as (r1:=gotR rk (dx:Int)) rfl (by show rk.told++[rk.op (dx:Int)]=rk.told++[((dx:Int),xm,xi)];rw[HOP.out]) rfl rfl;exact h1.congr HWN.out
       obtain⟨p0,p1,p2⟩:=hbx5;simp only at p0 p1 p2;clear hst5 hc5 HC4 HB4;go_wp2_with fail;refine(HGO.out R (gotR rk (dx:Int)) c5 (zdN P (L.drop (k+1))) dx w5 HC5.out.run.run HGT.out.1 HFG.out HPN.out hd1 hd6 HGT.out.2.1 HGT.out.2.2).mono ?_;rintro e w6 ⟨rfl,hst6⟩;obtain⟨c6,hc6⟩:=HC5.out.step hst6;have HC6:=zag hc6;have HF6:=zag (zi9 HDO.out HDF.out (dx:Int) (by omega) (by omega) ((gotR rk (dx:Int)).behind (dx:Int)).length (gotR rk (dx:Int)) HGT.out.1 HFG.out);clear hst6 hc6 p0 p1 p2;go_wp2_with fail;go_roundw
       case rel=>exact⟨k+1,c6,by omega,by go_num,by rw[HNX.out,HGY.out];exact HC6.out,by rw[HNX.out,HGY.out];exact HF6.out⟩
       case measure=>simp[intOf];omega
    ·have hlt':¬(k:Int)<(L.length:Int):=by omega
     obtain rfl:k=L.length:=by omega
     have HEND:Hid (zgk (doN way n) r t=rk):=by show zgk _ _ _=_;rw[HTGT.out,<-HRK.out,List.take_length]
     rw[List.drop_length]at HCK;go_wp2_with fail;go_end0;exact⟨rfl,by rw[HEND.out];exact HCK.out.run.done⟩
end Go.Proofs.YthlhgiihngcobaaGreatDoor
