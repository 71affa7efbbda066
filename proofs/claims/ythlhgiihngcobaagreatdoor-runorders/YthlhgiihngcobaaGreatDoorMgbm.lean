/-
  PROVED HERE: view.look gives of names what each op reads, in a map of its own, and what was written last; view.sight's isOf tells of names whether they come to the same sight.
  Conditions: none but those that each theorem's own premises say.
-/
import Derived.Test.YthlhgiihngcobaaGreatDoorMgbl
import Derived.Deep.QuietTactic
import Derived.BigQuiet
import Derived.WalkSmall
set_option maxHeartbeats 32000000
set_option maxRecDepth 100000
namespace Go.Proofs.YthlhgiihngcobaaGreatDoor
open Go.RowKit Go.Maps
def nmD(n:Nm):DataW Unit:=.agg [.lit (.int .i64 n.1.1),.lit (.int .i64 n.1.2.1),.lit (.int .i64 n.1.2.2),.lit (.int .i64 n.2)]
def zbw(v:Value):Option (DataW Unit × List MemPlace) :=
 match v with
 | .agg a =>
   match a.toList with
   | [.int .i64 p,.int .i64 q,.int .i64 r,.int .i64 s]=>some (.agg [.lit (.int .i64 p),.lit (.int .i64 q),.lit (.int .i64 r),.lit (.int .i64 s)],[])
   | _=>none
 | _=>none
theorem zjc(n:Nm):zbw (nmV n)=some (nmD n,[]):=rfl
theorem zh5{v:Value}{n:Nm}{ps:List MemPlace}(h:zbw v=some (nmD n,ps)):v=nmV n:=by
 unfold zbw at h;split at h
 ·rename_i a;split at h
  ·rename_i p q r s hl;simp only[Option.some.injEq,Prod.mk.injEq,nmD,DataW.agg.injEq,List.cons.injEq,DataW.lit.injEq,Lit.int.injEq,true_and,and_true]at h;obtain⟨⟨rfl,rfl,rfl,rfl⟩,_⟩:=h;unfold nmV;rw[<-Array.toArray_toList (xs:=a),hl]
  ·cases h
 ·cases h
def zjG(D:DataW Unit)(l:List Op3)(k:Nat):Prop :=∀n:Nm,Small n->(∀i,i<k->zah l i=n->Maps.has D (nmL n)=true/\D.atKey (nmL n) (nmD zN)=nmD (zb7 l i))/\((∀i,i<k->zah l i≠n)->Maps.has D (nmL n)=false)
theorem zgN(l:List Op3):zjG (.map []) l 0:=fun n _=>⟨fun i hi=>absurd hi (by omega),fun _=>rfl⟩
theorem zig{D:DataW Unit}{l:List Op3}{k:Nat}(hm:IsMap D)(hk:k<l.length)(hs:Small (zah l k))(h:zjG D l k):zjG (D.put (nmL (zah l k)) (nmD (zb7 l k))) l (k+1):=by
 intro n hn;by_cases he:zah l k=n
 ·subst he;refine⟨fun i hi hin=>⟨has_put_same hm (znx.key (zdC _ hn)) _,?_⟩,fun hno=>absurd rfl (hno k (by omega))⟩;rw[atKey_put_same hm (znx.key (zdC _ hn)),zfE (by omega) hk hin]
 ·have hne:nmL n≠nmL (zah l k):=fun hh=>he (zmn hs hn hh.symm);rw[has_put_other hne,atKey_put_other hne];obtain⟨h1,h2⟩:=h n hn;refine⟨fun i hi hin=>h1 i ?_ hin,fun hno=>h2 fun i hi=>hno i (by omega)⟩;rcases Nat.lt_or_ge i k with h3 | h3
  ·exact h3
  ·exact absurd (show zah l k=n by rw[show k=i by omega];exact hin) he
theorem ziu{D:DataW Unit}{l:List Op3}{k:Nat}(ht:Tidy D)(hk:k<l.length)(hs:Small (zah l k))(h:zjG D l k)(hz:Maps.size D=k)(d:DataW Unit):Maps.size (D.put (nmL (zah l k)) d)=k+1:=by rw[size_put ht,(h _ hs).2 fun i hi he=>absurd (zfE (by omega) hk he) (by omega),hz];simp
theorem zna(n:Int)(W:World):(Instr.makeMap 101 (some (.int .i64 n))).run Tryz.prog W=.ok (.map (some W.heap.size)) (W.alloc (.map #[] 0)):=by simp[Instr.makeMap,run_underlying Tryz.underlying101,asInt];rfl
structure za0(w:World)(M:Nat)(l:List Op3)(k:Nat)(D:DataW Unit):Prop where
 own:w.ownsMap Tryz.prog 105 zbw M k D
 froms:zjG D l k
 size:Maps.size D=k
theorem za0.same{w w':World}{M k:Nat}{l:List Op3}{D:DataW Unit}(h:za0 w M l k D)(hb:w'.heap[M]? = w.heap[M]?):za0 w' M l k D where
 own:=by obtain⟨es,clock,h1,h2⟩:=h.own;exact⟨es,clock,hb.trans h1,h2⟩
 froms:=h.froms
 size:=h.size
theorem zjF(l:List Op3)(k M c:Nat)(D:DataW Unit)(W:World)(hl:l.length<=40)(hop:∀o∈l,isOpB o=true)(hk:k<l.length)(hL:za0 W M l k D)(hc:W.cell? ⟨c,0,none⟩=some (.map (some M))):Calls Tryz.prog 124 #[nmV (zah l k),nmV (zb7 l k),.pointer (some ⟨c,0,none⟩)] W fun e W'=>e=.returned (.bool true)/\(∃D',za0 W' M l (k+1) D')/\zaO M W.heap.size W W':=by have HK:Hid (keyOf Tryz.prog 105 (nmV (zah l k))=some (nmL (zah l k))):=zdC _ (zbK hl hop hk);have HN:Hid (∀W' ,W'.ownsMap Tryz.prog 105 zbw M (k+1) (D.put (nmL (zah l k)) (nmD (zb7 l k)))->za0 W' M l (k+1) (D.put (nmL (zah l k)) (nmD (zb7 l k)))):=fun W' h=>⟨h,zig hL.own.isMap hk (zbK hl hop hk) hL.froms,ziu (hL.own.tidy znx) hk (zbK hl hop hk) hL.froms hL.size _⟩;have HOWN:Hid (W.ownsMap Tryz.prog 105 zbw M k D):=hL.own;have hMl:=hL.own.lt;have hcl:=World.block_lt_of_cell? W _ hc;simp only at hcl;clear hop hL;obtain⟨⟨⟨t,a,x⟩,m⟩,hnm⟩:∃n,zah l k=n:=⟨_,rfl⟩;obtain⟨⟨⟨s1,s2,s3⟩,sm⟩,hsr⟩:∃n,zb7 l k=n:=⟨_,rfl⟩;rw[hnm]at HK;rw[hnm,hsr]at HN ⊢;clear hnm hsr;unfold nmV at HK ⊢;simp only at HK ⊢;go_enter Tryz.func124,Tryz.ntmps124;go_wp2_with (at_mapUpdate;refine wpList_mapUpdate_own (H:=Unit) _ rfl (.tmp 6) (.tmp 7) (.tmp 8) 101 rfl 105 105 znx Tryz.underlying101 zbw M k D rfl ((HOWN.out.alloc _).alloc _) (by unfold maxLen;omega) (.agg #[.int .i64 t,.int .i64 a,.int .i64 x,.int .i64 m]) (.agg #[.int .i64 s1,.int .i64 s2,.int .i64 s3,.int .i64 sm]) (nmL ((t,a,x),m)) rfl rfl HK.out (nmD ((s1,s2,s3),sm)) [] rfl ?_;intro w2 hown2 hgr2);go_ret;exact⟨rfl,⟨_,HN.out _ hown2⟩,zaO.of_grown (((World.grownBy_alloc _ _ _).trans (World.grownBy_alloc _ _ _)).trans hgr2)⟩
theorem zie(args:Array Value)(W:World):(callFunc 124 args).run Tryz.prog W=.ok (.enter 124 args) W:=by
 kernel_rfl
theorem zfR{P:Program}{ops:Array Oper}{rest:List Oper}{o:Oper}{a:Act}{w:World}{Q:Exit->Act->World->Prop}(hg:o.guard=none)(t:TypeId)(p q:Operand)(ho:o.op=.build t #[(0,p),(1,q)])(v u:Value)(hp:a.eval p=v)(hq:a.eval q=u)(cells:Array Value)
  (hc:P.built t [(0,v),(1,u)]=some cells) (h:wpList P ops Q rest (a.put o.dst (.agg cells)) w):wpList P ops Q (o::rest) a w:=by
 have hc':P.built t ((#[(0,p),(1,q)]:Array (Nat × Operand)).map fun(i,x)=>(i,a.eval x)).toList=some cells:=by simpa[hp,hq]using hc
 exact wpList_build hg t _ ho (by rw[hc'];rfl) (by rw[hc'];exact h)
def zbv:Array Value:=(Value.map none::(cells28 fun _=>zN).toList).toArray
theorem zea:zbv.size=29:=by simp[zbv,zab]
structure zmj(w W:World):Prop where
 out:W.heap[w.heap.size]? = some (.cells zbv 109 (0,0))
 map:W.heap[w.heap.size+1]? = some (.map #[] 0)
 own:W.ownsMap Tryz.prog 105 zbw (w.heap.size+1) 0 (.map [])
 cell:W.cell? ⟨w.heap.size+1+1,0,none⟩=some (.map (some (w.heap.size+1)))
 below:Below w.heap.size w W
theorem look_split{F:FuncId}{args:Array Value}{Q:Ending->World->Prop}(w:World)(Z:Array Value)(hZ:zbv=Z)(h:∀W,zmj w W->Calls Tryz.prog F args W Q):Calls Tryz.prog F args (((w.alloc (.cells Z 109)).alloc (.map #[] 0)).alloc (.cells #[.map (some (w.heap.size+1))] 101)) Q:=by
 subst hZ;have h1:(w.alloc (.cells zbv 109)).heap.size=w.heap.size+1:=by simp
 have hm:=World.ownsMap_made (w.alloc (.cells zbv 109)) Tryz.prog 105 zbw;rw[h1]at hm;refine h _ ⟨?_,?_,hm.alloc _,?_,(((Below.refl _ w).alloc (Nat.le_refl _) _).alloc (by simp) _).alloc (by simp;omega) _⟩
 ·rw[heap_alloc_old _ _ (by simp;omega),heap_alloc_old _ _ (by simp),heap_alloc_new]
 ·rw[heap_alloc_old _ _ (by simp)];have h2:=heap_alloc_new (w.alloc (.cells zbv 109)) (.map #[] 0);rw[h1]at h2;exact h2
 ·rw[World.cell?_alloc_at _ _ _ _ (by simp)];rfl
theorem zdu{c:Code}{Q:Exit->Act->World->Prop}{a:Act}(w:World)(Z:Array Value)(f:Nat->Nm)(hZ:cells28 (fun _=>zN)=Z)(h:∀W,zan W w.heap.size f->Below w.heap.size w W->Code.wp Tryz.prog c Q a W):Code.wp Tryz.prog c Q a ((w.alloc (.cells Z 107)).setRow w.heap.size (cells28 f)):=by subst hZ;exact h _ (setRow_heap _ _ _ _ _ _ (zdR w _)) (below_setRow ((Below.refl _ w).alloc (Nat.le_refl _) _) (Nat.le_refl _) _)
theorem look_any(l:List Op3)(nv:Value)(w:World)(hN:zaH w nv (zar l l.length))(hl:l.length<=40)(hop:∀o∈l,isOpB o=true):Calls Tryz.prog 54 #[nv] w fun e w'=>∃M D,e=.returned (.agg (cells29 M (zai l l.length)))/\w.heap.size<=M/\za0 w' M l l.length D/\Below w.heap.size w w':=by
 have HN:Hid (∀W,Below w.heap.size w W->zaH W nv (zar l l.length)):=fun W hW=>by
  obtain⟨ad,b,off,cap,hv,ha,hb,hat⟩:=hN;refine⟨ad,b,off,cap,hv,ha,?_,hat.below hW hb⟩;rcases hb with h | h
  ·exact .inl (Nat.lt_of_lt_of_le h hW.size)
  ·exact .inr h
 have HOP:Hid (∀o∈l,isOpB o=true):=hop;have hmm:=zna;obtain⟨ad,b,off,cap,hv,-,-,-⟩:=hN;rw[zbn]at hv;subst hv;clear hop;go_enter Tryz.func54,Tryz.ntmps54;go_wp2_with fail;refine look_split w _ rfl ?_;intro W0 hB0;have HB0:Hid (zmj w W0):=hB0;clear hB0;refine(zfe l _ _ 124 (w.heap.size+1) #[] 0 W0 (fun k W=>∃D,za0 W (w.heap.size+1) l k D) (fun _=>true) zie (HN.out _ HB0.out.below) hl HOP.out HB0.out.map ⟨_,HB0.out.own,zgN l,rfl⟩ ?_ ?_).mono ?_
 ·rintro k W W' ⟨D,h⟩ hb;exact⟨D,h.same hb⟩
 ·rintro k hk W ⟨D,h⟩ hsv;have hcl:=World.block_lt_of_cell? W0 _ HB0.out.cell;refine(zjF l k (w.heap.size+1) (w.heap.size+1+1) D W hl HOP.out hk h ((World.cell?_of_block (a:=⟨w.heap.size+1+1,0,none⟩) (hsv.block _ hcl (by simp))).trans HB0.out.cell)).mono ?_;rintro e W' ⟨he,h1,h2⟩;exact⟨he,by simpa using h1,h2⟩
 rintro e w1 ⟨k,hk,-,hno,rfl,⟨D,hD⟩,hsv⟩
 obtain rfl:k=l.length:=by
  rcases Nat.lt_or_ge k l.length with h | h
  ·exact absurd (hno h) (by simp)
  ·omega
 have hcl:=World.block_lt_of_cell? W0 _ HB0.out.cell;simp only at hcl;have HO1:Hid (w1.heap[w.heap.size]? = some (.cells zbv 109 (0,0))):=(hsv.block _ (by omega) (by omega)).trans HB0.out.out;have HC1:w1.cell? ⟨w.heap.size+1+1,0,none⟩=some (.map (some (w.heap.size+1))):=(World.cell?_of_block (a:=⟨w.heap.size+1+1,0,none⟩) (hsv.block _ hcl (by simp))).trans HB0.out.cell;have HD:Hid (za0 w1 (w.heap.size+1) l l.length D):=hD;have HB1:Hid (Below w.heap.size w w1):=HB0.out.below.trans ⟨hsv.os,hsv.tape,hsv.output,hsv.size,fun k h1=>hsv.block k (by omega) (by omega)⟩;have hs1:=HB1.out.size;have hl2:w.heap.size+1+1<w1.heap.size:=World.block_lt_of_cell? w1 _ HC1;have HF1:Hid (zan (w1.alloc (.cells (cells28 fun _=>zN) 107)) w1.heap.size (fun _=>zN)):=zdR _ _;clear hno hsv hcl hD hk HB0
 go_upto_region 3 with(first | refine wpList_store_row rfl 107 (.tmp 4) (.tmp 13) rfl w1.heap.size (cells28 (zai l l.length)) rfl rfl 107 (cells28 fun _=>zN) HF1.out (zaq _) (by rw[zab,zab]) (zaV _) ?_ | fail)
 refine zdu w1 _ _ rfl ?_;intro W hLW hBW;have HLW:Hid (zan W w1.heap.size (zai l l.length)):=hLW;have HOW:Hid (W.heap[w.heap.size]? = some (.cells zbv 109 (0,0))):=(hBW.block _ (by omega)).trans HO1.out;have HCW:W.cell? ⟨w.heap.size+1+1,0,none⟩=some (.map (some (w.heap.size+1))):=(hBW.cell (p:=⟨w.heap.size+1+1,0,none⟩) hl2).trans HC1;have HDW:Hid (za0 W (w.heap.size+1) l l.length D):=HD.out.same (hBW.block _ (by omega));have HBW:Hid (Below w.heap.size w W):=HB1.out.trans (hBW.mono hs1);clear hLW hBW HC1 HO1 HD HB1 HF1;go_wp2_with (first | refine wpList_load_row rfl 107 (.tmp 4) rfl w1.heap.size rfl 107 (cells28 (zai l l.length)) (0,0) _ HLW.out Tryz.underlying107 rfl (zaq _) ?_ | refine zfR rfl 109 (.tmp 15) (.tmp 16) rfl (.map (some (w.heap.size+1))) (.agg (cells28 (zai l l.length))) rfl rfl (cells29 (w.heap.size+1) (zai l l.length)) (zgG _ _) ?_ | refine wpList_store_row rfl 109 (.tmp 2) (.tmp 17) rfl w.heap.size (cells29 (w.heap.size+1) (zai l l.length)) rfl rfl 109 zbv HOW.out (zbS _ _) (by rw[zb8,zea]) (zeq _ _) ?_);exact bodyPost_ret (v:=.agg (cells29 (w.heap.size+1) (zai l l.length))) (results_cell_row Tryz.results54 _ _ w.heap.size 109 (cells29 (w.heap.size+1) (zai l l.length)) (0,0) _ rfl (setRow_heap _ _ _ _ _ _ HOW.out) Tryz.underlying109 rfl (zbS _ _)) rfl ⟨w.heap.size+1,D,rfl,by omega,HDW.out.same (zck (by omega)),below_setRow HBW.out (Nat.le_refl _) _⟩
end Go.Proofs.YthlhgiihngcobaaGreatDoor
namespace Go.Proofs.YthlhgiihngcobaaGreatDoor
open Go.RowKit Go.Maps
theorem znq{h g:List Op3}{i k:Nat}(hi:i<h.length)(hn:zah h i=zah g k):zdr h g k=(zb7 h i == zb7 g k):=by
 rw[Bool.eq_iff_iff,zb9,beq_iff_eq];constructor
 ·rintro⟨j,j1,j2,j3⟩;rw[zfE hi j1 (hn.trans j2.symm)];exact j3
 ·intro e;exact⟨i,hi,hn,e⟩
theorem zm6{h g:List Op3}{k:Nat}(hn:∀i,i<h.length->zah h i≠zah g k):zdr h g k=false:=by
 cases hb:zdr h g k with
 | false=>rfl
 | true =>obtain⟨i,i1,i2,_⟩:=zb9.1 hb;exact absurd i2 (hn i i1)
theorem zm2(w:World):(zeroValue 105).run Tryz.prog w=.ok (nmV zN) w:=by kernel_rfl
theorem zb1{ops:Array Oper}{rest:List Oper}{o:Oper}{a:Act}{w:World}{Q:Exit->Act->World->Prop}(hg:o.guard=none)(m x:Operand)(hop:o.op=Op.lookup 101 m x true)
  (b n:Nat) (D:DataW Unit) (hm:a.eval m=.map (some b)) (hown:w.ownsMap Tryz.prog 105 zbw b n D) (key:Value) (kl:Lit) (hx:a.eval x=key) (hkey:keyOf Tryz.prog 105 key=some kl)
  (s:Nm) (hs:D.atKey kl (nmD zN)=nmD s) (q:Bool) (hq:Maps.has D kl=q) (hK:wpList Tryz.prog ops Q rest (a.put o.dst (.tuple #[nmV s,.bool q])) w):wpList Tryz.prog ops Q (o::rest) a w :=
 wpList_lookup_own_ok w hg m x _ hop 105 105 znx Tryz.underlying101 zbw (zm2 w) (nmD zN) [] (zjc zN) b n D hm hown key kl hx hkey (fun v ps hv=>by rw[hs]at hv;rw[zh5 hv,hq];exact hK)
theorem zhi(h g:List Op3)(k M S:Nat)(f:Nat->Nm)(D:DataW Unit)(W:World)(hl:h.length<=40)(hop:∀o∈h,isOpB o=true)(hl2:g.length<=40)(hop2:∀o∈g,isOpB o=true)(hk:k<g.length)(hL:za0 W M h h.length D)(hS:zas W S M f):Calls Tryz.prog 127 #[nmV (zah g k),nmV (zb7 g k),.pointer (some ⟨S,0,none⟩)] W fun e W'=>e=.returned (.bool (zdr h g k))/\Below W.heap.size W W':=by
 have hsn:=zbK hl2 hop2 hk;have hss:=zfX hl2 hop2 (Nat.le_of_lt hk);have HK:Hid (keyOf Tryz.prog 105 (nmV (zah g k))=some (nmL (zah g k))):=zdC _ hsn;have HOWN:Hid (W.ownsMap Tryz.prog 105 zbw M h.length D):=hL.own;have hc:=hS.map;have hcl:=World.block_lt_of_cell? W _ hc;simp only at hcl;obtain⟨hf1,hf2⟩:=hL.froms (zah g k) hsn;by_cases hex:∃i,i<h.length/\zah h i=zah g k
 ·obtain⟨i,hi,hin⟩:=hex;obtain⟨hhas,hat⟩:=hf1 i hi hin;have HSE:Hid (zdr h g k=(zb7 h i == zb7 g k)):=znq hi hin;have hsi:=zfX hl hop (Nat.le_of_lt hi);have HEQ:Hid (∀W,(Op.equal 105 (nmV (zb7 h i)) (nmV (zb7 g k))).run Tryz.prog W=.ok (zb7 h i == zb7 g k) W):=fun W=>znk _ _ hsi hss W;obtain⟨⟨⟨t,a,x⟩,m⟩,hnm⟩:∃n,zah g k=n:=⟨_,rfl⟩;obtain⟨⟨⟨s1,s2,s3⟩,sm⟩,hsr⟩:∃n,zb7 g k=n:=⟨_,rfl⟩;obtain⟨⟨⟨r1,r2,r3⟩,rm⟩,hsr2⟩:∃n,zb7 h i=n:=⟨_,rfl⟩;rw[hsr2]at hat;rw[hsr,hsr2]at HEQ HSE;rw[hnm]at HK hat hhas;rw[hnm,hsr,HSE.out];have HAT:Hid (D.atKey (nmL ((t,a,x),m)) (nmD zN)=nmD ((r1,r2,r3),rm)/\Maps.has D (nmL ((t,a,x),m))=true):=⟨hat,hhas⟩;clear hnm hsr hsr2 hat hhas hf1 hf2 hin hi hsi hss hsn HSE hop hop2 hL hS hk;obtain⟨q,hq⟩:∃q,((((r1,r2,r3),rm):Nm) == ((s1,s2,s3),sm))=q:=⟨_,rfl⟩;rw[hq]at HEQ ⊢;clear hq;unfold nmV at HK HEQ ⊢;simp only at HK HEQ ⊢;go_enter Tryz.func127,Tryz.ntmps127;go_wp2_with (first | (at_lookup;refine zb1 rfl (.tmp 10) (.tmp 11) rfl M h.length D rfl ((HOWN.out.alloc _).alloc _) (.agg #[.int .i64 t,.int .i64 a,.int .i64 x,.int .i64 m]) (nmL ((t,a,x),m)) rfl HK.out ((r1,r2,r3),rm) HAT.out.1 true HAT.out.2 ?_;unfold nmV;simp only) | refine zcE rfl 105 105 (.tmp 17) (.tmp 18) rfl #[.int .i64 r1,.int .i64 r2,.int .i64 r3,.int .i64 rm] #[.int .i64 s1,.int .i64 s2,.int .i64 s3,.int .i64 sm] rfl rfl znS q (HEQ.out _) ?_);go_ret;exact⟨rfl,(((Below.refl _ W).alloc (Nat.le_refl _) _).alloc (by simp) _).alloc (by simp;omega) _⟩
 ·have hhas:=hf2 fun i hi he=>hex ⟨i,hi,he⟩;have HSE:Hid (zdr h g k=false):=zm6 fun i hi he=>hex ⟨i,hi,he⟩;have hat:=atKey_of_not_has hhas (nmD zN);obtain⟨⟨⟨t,a,x⟩,m⟩,hnm⟩:∃n,zah g k=n:=⟨_,rfl⟩;obtain⟨⟨⟨s1,s2,s3⟩,sm⟩,hsr⟩:∃n,zb7 g k=n:=⟨_,rfl⟩;rw[hnm]at HK hat hhas;rw[hnm,hsr,HSE.out];have HAT:Hid (D.atKey (nmL ((t,a,x),m)) (nmD zN)=nmD zN/\Maps.has D (nmL ((t,a,x),m))=false):=⟨hat,hhas⟩;clear hnm hsr hat hhas hf1 hf2 hex hss hsn HSE hop hop2 hL hS hk;unfold nmV at HK ⊢;simp only at HK ⊢;go_enter Tryz.func127,Tryz.ntmps127;go_wp2_with (at_lookup;refine zb1 rfl (.tmp 10) (.tmp 11) rfl M h.length D rfl ((HOWN.out.alloc _).alloc _) (.agg #[.int .i64 t,.int .i64 a,.int .i64 x,.int .i64 m]) (nmL ((t,a,x),m)) rfl HK.out zN HAT.out.1 false HAT.out.2 ?_;unfold nmV zN;simp only);go_ret;exact⟨rfl,(((Below.refl _ W).alloc (Nat.le_refl _) _).alloc (by simp) _).alloc (by simp;omega) _⟩
theorem zl4(args:Array Value)(W:World):(callFunc 127 args).run Tryz.prog W=.ok (.enter 127 args) W:=by
 kernel_rfl
theorem zaH.below{w w1:World}{B:Nat}{v:Value}{l:List Nm}(h:zaH w v l)(hb:Below B w w1)(hB:w.heap.size<=B):zaH w1 v l:=by
 obtain⟨ad,b,off,cap,hv,ha,hbB,hat⟩:=h;have hs:=hb.size;refine⟨ad,b,off,cap,hv,ha,?_,hat.below hb ?_⟩
 ·rcases hbB with h | h
  ·exact .inl (by omega)
  ·exact .inr h
 ·rcases hbB with h | h
  ·exact .inl (by omega)
  ·exact .inr h
theorem zlP{h g:List Op3}{k:Nat}(hk:k<g.length)(hn:zdr h g k=false):zbq h g=false:=by
 cases hb:zbq h g with
 | false=>rfl
 | true=>rw[(zbE.1 hb).2.1 k hk]at hn;cases hn
theorem zkA{h g:List Op3}(hn:g.length≠h.length):zbq h g=false:=by
 cases hb:zbq h g with
 | false=>rfl
 | true=>exact absurd (zbE.1 hb).1 hn
theorem zio{h g:List Op3}(hl:g.length=h.length)(hs:∀k,k<g.length->zdr h g k=true):zbq h g=zfp h g:=by rw[Bool.eq_iff_iff,zbE];exact⟨fun h=>h.2.2,fun h=>⟨hl,hs,h⟩⟩
theorem zlk{h g:List Op3}:zfp h g=true↔∀x,x<7->zai h h.length x=zai g g.length x:=zgq
theorem zbZ{P:Program}{ops:Array Oper}{rest:List Oper}{o:Oper}{a:Act}{w:World}{Q:Exit->Act->World->Prop}(hw:Region.wanted o (yielded ops a.tmps)=true)(ty:TypeId)(x:Operand)(ho:o.op=.load ty x)
  (g:Nat) (hx:a.eval x=.pointer (some ⟨g,0,none⟩)) (t:TypeId) (cs:Array Value) (fr:Nat × Nat) (d:TypeDesc) (hg:w.heap[g]? = some (.cells cs t fr))
  (hu:P.underlying ty=some d) (hd:(match d with | .struct _ | .array _ _=>true | _=>false)=true) (hi:(P.info? ty).map (·.size)=some cs.size)
  (h:wpList P ops Q rest (a.put o.dst (.agg cs)) w):wpList P ops Q (o::rest) a w :=
 Go.BigFrame.wpList_want hw fun _ hK=>wp_load_row ty x ho g hx t cs fr d hg hu hd hi (hK _ _ h)
theorem zdO{P:Program}{ops:Array Oper}{rest:List Oper}{op:Oper}{a:Act}{w:World}{Q:Exit->Act->World->Prop}(hw:Region.wanted op (yielded ops a.tmps)=true)(ty:TypeId)(x:Operand)(ho:op.op=.load ty x)
  (b o:Nat) (hx:a.eval x=.pointer (some ⟨b,o,none⟩)) (cs:List Value) (d:TypeDesc) (hc:w.rangeAt b o cs)
  (hu:P.underlying ty=some d) (hd:d.isRow=true) (hi:(P.info? ty).map (·.size)=some cs.length)
  (h:wpList P ops Q rest (a.put op.dst (.agg cs.toArray)) w):wpList P ops Q (op::rest) a w :=
 Go.BigFrame.wpList_want hw fun _ hK=>wp_load_mid ty x ho b o hx cs d hc hu hd hi (hK _ _ h)
theorem zd1{l:List Op3}{k:Nat}(hl:l.length<=40)(hop:∀o∈l,isOpB o=true)(hk:k<=l.length):∀x,x<7->Small (zai l k x):=fun _ _=>zfa hl hop hk _
theorem zh6(h g:List Op3)(M:Nat)(D:DataW Unit)(nv:Value)(w:World)(hl:h.length<=40)(hop:∀o∈h,isOpB o=true)(hl2:g.length<=40)(hop2:∀o∈g,isOpB o=true)(hL:za0 w M h h.length D)(hN:zaH w nv (zar g g.length)):Calls Tryz.prog 57 #[.agg (cells29 M (zai h h.length)),nv] w fun e w'=>e=.returned (.bool (zbq h g))/\Below w.heap.size w w':=by
 have HOP:Hid ((∀o∈h,isOpB o=true)/\(∀o∈g,isOpB o=true)):=⟨hop,hop2⟩;have HN:Hid (∀W,Below w.heap.size w W->zaH W nv (zar g g.length)):=fun W hW=>hN.below hW (Nat.le_refl _);have HL:Hid (∀W,Below w.heap.size w W->za0 W M h h.length D):=fun W hW=>hL.same (hW.block _ hL.own.lt);have hMl:=hL.own.lt;obtain⟨ad,b,off,cap,hv,-,-,-⟩:=hN;rw[zbn]at hv;subst hv;clear hop hop2 hL;go_enter Tryz.func57,Tryz.ntmps57
 go_upto_region 1 with(fail)
 obtain⟨W0,hW0⟩:∃W0,W0=w.alloc (.cells (cells29 M (zai h h.length)) 109):=⟨_,rfl⟩;rw[<-hW0];have HS0:Hid (zas W0 w.heap.size M (zai h h.length)):=by rw[hW0];exact zja _ _ _
 have hB0:Below w.heap.size w W0:=by rw[hW0];exact(Below.refl _ w).alloc (Nat.le_refl _) _
 have hs0:w.heap.size<W0.heap.size:=HS0.out.lt;have c0:=HS0.out.map;have HLD:Hid (za0 W0 M h h.length D):=HL.out W0 hB0;have HB0:Hid (Below w.heap.size w W0):=hB0;have HN0:Hid (zaH W0 (.slice ad g.length cap) (zar g g.length)):=HN.out W0 hB0;obtain⟨es,clock,hes⟩:=zkI HLD.out.own;have HES:Hid (W0.heap[M]? = some (.map es clock)):=hes;clear hW0 hB0 HL HN hes;by_cases hlen:g.length=h.length
 ·have hne:((g.length:Int) != (h.length:Int))=false:=by rw[hlen];simp
  have HLEN:Hid (g.length=h.length):=hlen;clear hlen;go_wp2_with (at_len;refine wpList_len_own _ rfl (.tmp 10) 101 rfl 105 105 Tryz.underlying101 zbw M h.length D rfl HLD.out.own ?_;rw[HLD.out.size]);refine(zfe g _ _ 127 M es clock W0 (fun _ W=>W.heap[M]? = W0.heap[M]?) (zdr h g) zl4 HN0.out hl2 HOP.out.2 HES.out rfl (fun _ _ _ h hb=>hb.trans h) ?_).mono ?_
  ·intro k hk W hin hsv;refine(zhi h g k M w.heap.size (zai h h.length) D W hl HOP.out.1 hl2 HOP.out.2 hk (HLD.out.same hin) (HS0.out.same (hsv.block _ hs0 (by omega)))).mono ?_;rintro e W' ⟨he,hb⟩;exact⟨he,(hb.block M (by have:=hsv.size;omega)).trans hin,zaO.of_below hb⟩
  rintro e w1 ⟨k,hk,hall,hno,rfl,hin,hsv⟩;have hB1:Below W0.heap.size W0 w1:=hsv.below hin;have HB1:Hid (Below w.heap.size w w1):=HB0.out.trans (hB1.mono (by omega));have HS1:Hid (zas w1 w.heap.size M (zai h h.length)):=HS0.out.below hB1 hs0;have hs1:w.heap.size<w1.heap.size:=HS1.out.lt;have HF1:Hid (zan (w1.alloc (.cells (cells28 fun _=>zN) 107)) w1.heap.size (fun _=>zN)):=zdR _ _;clear hin hsv hB1 c0 HS0 HLD HB0 HN0 HES;by_cases hkg:k=g.length
  ·have HSI:Hid (zbq h g=zfp h g):=zio HLEN.out fun j hj=>hall j (by omega);rw[show decide (k=g.length)=true from decide_eq_true hkg];obtain⟨r,hr,hiff⟩:∃r:Bool,(∀W,(Op.equal 107 (.agg (cells28 (zai g g.length))) (.agg (cells28 (zai h h.length)))).run Tryz.prog W=.ok r W)/\r=zfp h g:=by refine⟨zfp h g,fun W=>?_,rfl⟩;obtain⟨r,hr,hiff⟩:=znc (zai g g.length) (zai h h.length) (zd1 hl2 HOP.out.2 (Nat.le_refl _)) (zd1 hl HOP.out.1 (Nat.le_refl _)) W;rw[hr];congr 1;rw[Bool.eq_iff_iff,hiff,zlk];exact⟨fun h x hx=>(h x hx).symm,fun h x hx=>(h x hx).symm⟩
   have HSR:Hid (zbq h g=r):=by show zbq h g=r;rw[HSI.out,hiff]
   have HR:Hid (∀W,(Op.equal 107 (.agg (cells28 (zai g g.length))) (.agg (cells28 (zai h h.length)))).run Tryz.prog W=.ok r W):=hr;subst hkg;clear hall hno hk hr hiff HSI
   go_upto_region 4 with(first | refine wpList_store_row rfl 107 (.tmp 5) (.tmp 17) rfl w1.heap.size (cells28 (zai g g.length)) rfl rfl 107 (cells28 fun _=>zN) HF1.out (zaq _) (by rw[zab,zab]) (zaV _) ?_ | fail)
   refine zdu w1 _ _ rfl ?_;intro W hLW hBW;have HLW:Hid (zan W w1.heap.size (zai g g.length)):=hLW;have HSW:Hid (zas W w.heap.size M (zai h h.length)):=HS1.out.below hBW hs1;have HBW:Hid (Below w.heap.size w W):=HB1.out.trans (hBW.mono (by omega));clear hLW hBW HF1 HS1 HB1;go_wp2_with (first | refine zbZ rfl 107 (.tmp 5) rfl w1.heap.size rfl 107 (cells28 (zai g g.length)) (0,0) _ HLW.out Tryz.underlying107 rfl (zaq _) ?_ | refine zdO rfl 107 (.tmp 22) rfl w.heap.size 1 rfl (cells28 (zai h h.length)).toList _ HSW.out.range Tryz.underlying107 rfl (by rw[Array.length_toList,zab];exact zgr) ?_ | refine zcE rfl 107 107 (.tmp 21) (.tmp 23) rfl (cells28 (zai g g.length)) (cells28 (zai h h.length)) rfl rfl znI r (HR.out _) ?_);go_ret;exact⟨by rw[HSR.out];rfl,HBW.out⟩
  ·have HSI:Hid (zbq h g=false):=zlP (by omega) (hno (by omega));rw[show decide (k=g.length)=false from decide_eq_false hkg];clear hall hno hkg
   go_upto_region 4 with(first | refine wpList_store_row rfl 107 (.tmp 5) (.tmp 17) rfl w1.heap.size (cells28 (zai g k)) rfl rfl 107 (cells28 fun _=>zN) HF1.out (zaq _) (by rw[zab,zab]) (zaV _) ?_ | fail)
   refine zdu w1 _ _ rfl ?_;intro W hLW hBW;have HBW:Hid (Below w.heap.size w W):=HB1.out.trans (hBW.mono (by omega));clear hLW hBW HF1 HS1 HB1;go_wp2_with fail;go_ret;exact⟨by rw[HSI.out];rfl,HBW.out⟩
 ·have hne:((g.length:Int) != (h.length:Int))=true:=by simp;omega
  have HSI:Hid (zbq h g=false):=zkA hlen;clear hlen;go_wp2_with (at_len;refine wpList_len_own _ rfl (.tmp 10) 101 rfl 105 105 Tryz.underlying101 zbw M h.length D rfl HLD.out.own ?_;rw[HLD.out.size]);go_ret;exact⟨by rw[HSI.out];rfl,HB0.out⟩
end Go.Proofs.YthlhgiihngcobaaGreatDoor
