/-
  PROVED HERE: seven names in a block of memory (of each item the Write that was last), what becomes of them when one is; two names, and seven names and seven names, are compared as Go compares them.
  Conditions: none but those that each theorem's own premises say.
-/
import Derived.Test.YthlhgiihngcobaaGreatDoorMgbj
import Derived.Test.YthlhgiihngcobaaGreatDoorMgal
import Derived.Laws.Rows
import Derived.Laws.CopyOwn
import Derived.Deep.MidRow
import Derived.BigFrame
set_option maxHeartbeats 32000000
set_option maxRecDepth 100000
namespace Go.Proofs.YthlhgiihngcobaaGreatDoor
open Go.RowKit Go.Maps
def zbd(n:Nm)(j:Nat):Value:=match j with | 0=>.int .i64 n.1.1 | 1=>.int .i64 n.1.2.1 | 2=>.int .i64 n.1.2.2 | _=>.int .i64 n.2
def cells28(f:Nat->Nm):Array Value:=((List.range 28).map fun k=>zbd (f (k / 4)) (k % 4)).toArray
theorem zab(f:Nat->Nm):(cells28 f).size=28:=by simp[cells28]
theorem zaX(f:Nat->Nm)(k:Nat)(h:k<28):(cells28 f)[k]? = some (zbd (f (k / 4)) (k % 4)):=by simp[cells28,h]
theorem zjI(n:Nm)(j:Nat):(zbd n j).oneCell'=true:=by unfold zbd;split <;> rfl
theorem zaV(f:Nat->Nm):(cells28 f).all (·.oneCell')=true:=by rw[Array.all_eq_true_iff_forall_mem];intro v hv;simp only[cells28,List.mem_toArray,List.mem_map]at hv;obtain⟨k,_,rfl⟩:=hv;exact zjI _ _
theorem zfz{f g:Nat->Nm}(h:∀x,x<7->f x=g x):cells28 f=cells28 g:=by unfold cells28;congr 1;refine List.map_congr_left fun k hk=>?_;rw[h (k / 4) (by have:=List.mem_range.1 hk;omega)]
theorem zkG{a b:Nm}(h0:zbd a 0=zbd b 0)(h1:zbd a 1=zbd b 1)(h2:zbd a 2=zbd b 2)(h3:zbd a 3=zbd b 3):a=b:=by
 obtain⟨⟨a1,a2,a3⟩,a4⟩:=a;obtain⟨⟨b1,b2,b3⟩,b4⟩:=b;simp[zbd]at h0 h1 h2 h3;obtain rfl:=h0;obtain rfl:=h1;obtain rfl:=h2;have:a4=b4:=by omega
 rw[this]
theorem cells28_inj{f g:Nat->Nm}(h:cells28 f=cells28 g){x:Nat}(hx:x<7):f x=g x:=by
 have e:∀j,j<4->zbd (f x) j=zbd (g x) j:=fun j hj=>by have h1:=zaX f (x*4+j) (by omega);rw[h,zaX g (x*4+j) (by omega),show(x*4+j) / 4=x by omega,show(x*4+j) % 4=j by omega]at h1;exact(Option.some.inj h1).symm
 exact zkG (e 0 (by omega)) (e 1 (by omega)) (e 2 (by omega)) (e 3 (by omega))
def zm4(f:Nat->Nm)(x:Nat)(n:Nm):Nat->Nm:=fun i=>if i=x then n else f i
def zan(w:World)(b:Nat)(f:Nat->Nm):Prop:=w.heap[b]? = some (.cells (cells28 f) 107 (0,0))
theorem zan.lt{w:World}{b:Nat}{f:Nat->Nm}(h:zan w b f):b<w.heap.size:=by have h':w.heap[b]? = some _:=h;exact(Array.getElem?_eq_some_iff.1 h').1
theorem zan.cell{w:World}{b:Nat}{f:Nat->Nm}(h:zan w b f){x j:Nat}(hx:x<7)(hj:j<4):w.cell? ⟨b,x*4+j,none⟩=some (zbd (f x) j):=by rw[cell_of_row w b _ _ _ _ h,zaX f _ (by omega),show(x*4+j) / 4=x by omega,show(x*4+j) % 4=j by omega]
theorem zan.cells{w:World}{b:Nat}{f:Nat->Nm}(h:zan w b f){x:Nat}(hx:x<7){t a i:Int}{m:Nat}(he:f x=((t,a,i),m)):w.cell? ⟨b,x*4,none⟩=some (.int .i64 t)/\w.cell? ⟨b,x*4+1,none⟩=some (.int .i64 a)/\w.cell? ⟨b,x*4+2,none⟩=some (.int .i64 i)/\w.cell? ⟨b,x*4+3,none⟩=some (.int .i64 m):=by have h0:=h.cell hx (j:=0) (by omega);have h1:=h.cell hx (j:=1) (by omega);have h2:=h.cell hx (j:=2) (by omega);have h3:=h.cell hx (j:=3) (by omega);rw[he]at h0 h1 h2 h3;exact⟨h0,h1,h2,h3⟩
theorem zan.thaw{w:World}{b:Nat}{f:Nat->Nm}(h:zan w b f)(k:Nat):w.frozen? ⟨b,k,none⟩=false:=by have h':w.heap[b]? = some _:=h;simp[World.frozen?,h']
theorem zan.same{w w':World}{b:Nat}{f:Nat->Nm}(h:zan w b f)(hb:w'.heap[b]? = w.heap[b]?):zan w' b f:=hb.trans h
theorem zan.below{w w1:World}{b B:Nat}{f:Nat->Nm}(h:zan w b f)(hb:Below B w w1)(hB:b<B):zan w1 b f:=(hb.block b hB).trans h
theorem zan.alloc{w:World}{b:Nat}{f:Nat->Nm}(h:zan w b f)(o:Obj):zan (w.alloc o) b f:=(Below.heap_alloc w o b h.lt).trans h
theorem zgL(f:Nat->Nm)(x:Nat)(n:Nm):(((cells28 f |>.setIfInBounds (x*4) (zbd n 0)).setIfInBounds (x*4+1) (zbd n 1)).setIfInBounds (x*4+2) (zbd n 2)).setIfInBounds (x*4+3) (zbd n 3)=cells28 (zm4 f x n):=by
 refine Array.ext_getElem? fun j=>?_;by_cases hj:j<28
 ·rw[zaX _ j hj];simp only[Array.getElem?_setIfInBounds,Array.size_setIfInBounds,zab];rw[zaX _ j hj];unfold zm4;by_cases e:j / 4=x
  ·rw[if_pos e];rcases(show j=x*4\/j=x*4+1\/j=x*4+2\/j=x*4+3 by omega)with h | h | h | h
   ·rw[if_neg (by omega),if_neg (by omega),if_neg (by omega),if_pos h.symm,if_pos (by omega),show j % 4=0 by omega]
   ·rw[if_neg (by omega),if_neg (by omega),if_pos h.symm,if_pos (by omega),show j % 4=1 by omega]
   ·rw[if_neg (by omega),if_pos h.symm,if_pos (by omega),show j % 4=2 by omega]
   ·rw[if_pos h.symm,if_pos (by omega),show j % 4=3 by omega]
  ·rw[if_neg e,if_neg (by omega),if_neg (by omega),if_neg (by omega),if_neg (by omega)]
 ·rw[Array.getElem?_eq_none (by simp[zab];omega),Array.getElem?_eq_none (by simp[zab];omega)]
theorem zan.set{w:World}{b:Nat}{f:Nat->Nm}(h:zan w b f)(x:Nat)(n:Nm):zan ((((w.setCell ⟨b,x*4,none⟩ (zbd n 0)).setCell ⟨b,x*4+1,none⟩ (zbd n 1)).setCell ⟨b,x*4+2,none⟩ (zbd n 2)).setCell ⟨b,x*4+3,none⟩ (zbd n 3)) b (zm4 f x n):=by have h':w.heap[b]? = some (.cells (cells28 f) 107 (0,0)):=h;unfold zan World.setCell;simp[Array.getElem?_modify,h',zgL f x n]
theorem zdR(w:World)(f:Nat->Nm):zan (w.alloc (.cells (cells28 f) 107)) w.heap.size f:=by unfold zan World.alloc;simp
theorem ze6(w:World)(c:Array Value)(h:cells28 (fun _=>zN)=c):zan (w.alloc (.cells c 107)) w.heap.size (fun _=>zN):=h ▸zdR w _
theorem zgr:(Tryz.prog.info? 107).map (·.size)=some 28:=by kernel_rfl
theorem zaq(f:Nat->Nm):(Tryz.prog.info? 107).map (·.size)=some (cells28 f).size:=by rw[zab];exact zgr
def cells29(M:Nat)(f:Nat->Nm):Array Value:=(Value.map (some M)::(cells28 f).toList).toArray
theorem zb8(M:Nat)(f:Nat->Nm):(cells29 M f).size=29:=by simp[cells29,zab]
theorem zeq(M:Nat)(f:Nat->Nm):(cells29 M f).all (·.oneCell')=true:=by
 rw[Array.all_eq_true_iff_forall_mem];intro v hv;simp only[cells29,List.mem_toArray,List.mem_cons,Array.mem_toList_iff]at hv;rcases hv with rfl | hv
 ·rfl
 ·exact(Array.all_eq_true_iff_forall_mem.1 (zaV f)) v hv
theorem ziP:(Tryz.prog.info? 109).map (·.size)=some 29:=by kernel_rfl
theorem zbS(M:Nat)(f:Nat->Nm):(Tryz.prog.info? 109).map (·.size)=some (cells29 M f).size:=by rw[zb8];exact ziP
def zas(w:World)(b M:Nat)(f:Nat->Nm):Prop:=w.heap[b]? = some (.cells (cells29 M f) 109 (0,0))
theorem zas.lt{w:World}{b M:Nat}{f:Nat->Nm}(h:zas w b M f):b<w.heap.size:=by have h':w.heap[b]? = some _:=h;exact(Array.getElem?_eq_some_iff.1 h').1
theorem zas.map{w:World}{b M:Nat}{f:Nat->Nm}(h:zas w b M f):w.cell? ⟨b,0,none⟩=some (.map (some M)):=by rw[cell_of_row w b _ _ _ _ h];rfl
theorem zas.cell{w:World}{b M:Nat}{f:Nat->Nm}(h:zas w b M f){k:Nat}(hk:k<28):w.cell? ⟨b,1+k,none⟩=some (zbd (f (k / 4)) (k % 4)):=by rw[cell_of_row w b _ _ _ _ h,Nat.add_comm 1 k];have:=zaX f k hk;simpa[cells29]using this
theorem zas.range{w:World}{b M:Nat}{f:Nat->Nm}(h:zas w b M f):w.rangeAt b 1 (cells28 f).toList:=fun j v hv=>by
 have hj:j<28:=by have:=(List.getElem?_eq_some_iff.1 hv).1;simpa[zab]using this
 rw[h.cell hj];have h1:=zaX f j hj;rw[<-Array.getElem?_toList,hv]at h1;exact h1.symm
theorem zas.below{w w1:World}{b B M:Nat}{f:Nat->Nm}(h:zas w b M f)(hb:Below B w w1)(hB:b<B):zas w1 b M f:=(hb.block b hB).trans h
theorem zas.same{w w':World}{b M:Nat}{f:Nat->Nm}(h:zas w b M f)(hb:w'.heap[b]? = w.heap[b]?):zas w' b M f:=hb.trans h
theorem zja(w:World)(M:Nat)(f:Nat->Nm):zas (w.alloc (.cells (cells29 M f) 109)) w.heap.size M f:=by unfold zas World.alloc;simp
theorem zgG(M:Nat)(f:Nat->Nm):Tryz.prog.built 109 [(0,.map (some M)),(1,.agg (cells28 f))]=some (cells29 M f):=by kernel_rfl
end Go.Proofs.YthlhgiihngcobaaGreatDoor
namespace Go.Proofs.YthlhgiihngcobaaGreatDoor
open Go.RowKit Go.Maps
theorem zkX{α β:Type}{F:α->Option β}{G:α->β}:∀ {l:List α},(∀i∈l,F i=some (G i))->l.mapM F=some (l.map G):=by
 intro l
 induction l with
 | nil=>intro _;rfl
 | cons a l ih =>intro h;rw[List.mapM_cons,h a (List.mem_cons_self ..),ih fun i hi=>h i (List.mem_cons_of_mem _ hi)];rfl
theorem znm(f:Nat->Nm){i:Nat}(hi:i<7):((cells28 f).toList.drop (i*4)).take 4=(nmV (f i)).cells.toList:=by
 refine List.ext_getElem? fun j=>?_;rw[List.getElem?_take];by_cases hj:j<4
 ·rw[if_pos hj,List.getElem?_drop,Array.getElem?_toList,zaX f _ (by omega),show(i*4+j) / 4=i by omega,show(i*4+j) % 4=j by omega];rcases(show j=0\/j=1\/j=2\/j=3 by omega)with rfl | rfl | rfl | rfl <;> rfl
 ·rw[if_neg hj,List.getElem?_eq_none];simp[nmV,Value.cells];omega
theorem zmr:Tryz.prog.cellsOf 107=28:=by kernel_rfl
theorem zoy:Tryz.prog.keyType 107=true:=by kernel_rfl
theorem zoB:107<Tryz.prog.types.size:=of_decide_eq_true (by kernel_rfl)
theorem znT:(match Tryz.prog.underlying 107 with | some (.array _ _) | some (.struct _)=>true | _=>false)=true:=by kernel_rfl
theorem wAt:Tryz.prog.keyTypeAt 4 107=true:=by kernel_rfl
theorem nAt:Tryz.prog.keyTypeAt 3 105=true:=by kernel_rfl
theorem zox:Keyed Tryz.prog 107:=Keyed.of_law (deep_law_laid znV (m:=4) (by omega) zoB wAt znT)
def zn0(n:Nm):List Lit:=[.int .i64 n.1.1,.int .i64 n.1.2.1,.int .i64 n.1.2.2,.int .i64 n.2]
theorem znW(d:Nat)(f:Nat->Nm)(h:∀x,x<7->Small (f x)):Tryz.prog.keyLits (d+4) 107 (cells28 f).toList=some ((List.range 7).map fun i=>zn0 (f i)).flatten:=by
 have hm:(List.range 7).mapM (fun i=>Tryz.prog.keyLits (d+3) 105 (((cells28 f).toList.drop (i*4)).take 4))=some ((List.range 7).map fun i=>zn0 (f i)):=zkX fun i hi=>by rw[znm f (List.mem_range.1 hi)];exact zjo d (f i) (h i (List.mem_range.1 hi))
 unfold Program.keyLits;rw[Tryz.underlying107];simp only[zmr,zjq,Array.length_toList,zab,if_true,hm];rfl
theorem zn7(f:Nat->Nm)(h:∀x,x<7->Small (f x)):∃l,keyOf Tryz.prog 107 (.agg (cells28 f))=some l:=by obtain⟨d,hd⟩:∃d,Tryz.prog.types.size+1=d+4:=⟨369-3,by rw[znM]⟩;obtain⟨L,hL⟩:∃L,Tryz.prog.keyLits (d+4) 107 (cells28 f).toList=some L:=⟨_,znW d f h⟩;refine⟨.string (keyBytes L),?_⟩;unfold keyOf;rw[Tryz.underlying107,hd];simp only[Value.cells,hL,zoy,Value.formed,Tryz.underlying107];simp[zmr,zab]
theorem znc(f g:Nat->Nm)(hf:∀x,x<7->Small (f x))(hg:∀x,x<7->Small (g x))(W:World):∃r:Bool,(Op.equal 107 (.agg (cells28 f)) (.agg (cells28 g))).run Tryz.prog W=.ok r W/\(r=true↔∀x,x<7->f x=g x):=by
 obtain⟨l,hl⟩:=zn7 f hf;obtain⟨m,hm⟩:=zn7 g hg;obtain⟨r,hr,hiff⟩:=run_equal_deep (P:=Tryz.prog) W (m:=4) (by omega) wAt znT hl hm;refine⟨r,hr,hiff.trans ⟨fun e x hx=>?_,fun e=>?_⟩⟩
 ·subst e;have h1:=zox.inj hl hm;injection h1 with h1;exact cells28_inj h1 hx
 ·rw[zfz e,hm]at hl;exact(Option.some.inj hl).symm
theorem znk(a b:Nm)(ha:Small a)(hb:Small b)(W:World):(Op.equal 105 (nmV a) (nmV b)).run Tryz.prog W=.ok (a == b) W:=by
 obtain⟨r,hr,hiff⟩:=run_equal_deep (P:=Tryz.prog) W (m:=3) (by omega) nAt znJ (zdC a ha) (zdC b hb);have:r=(a == b):=by rw[Bool.eq_iff_iff,hiff,beq_iff_eq];exact⟨fun e=>zmn ha hb e,fun e=>by rw[e]⟩
 rw[<-this];exact hr
theorem znI:Tryz.prog.eqGuardType Tryz.prog.depth 107=false:=by kernel_rfl
theorem znS:Tryz.prog.eqGuardType Tryz.prog.depth 105=false:=by kernel_rfl
theorem zcE{P:Program}{ops:Array Oper}{rest:List Oper}{o:Oper}{a:Act}{w:World}{Q:Exit->Act->World->Prop}(hw:Region.wanted o (yielded ops a.tmps)=true)(t u:TypeId)(x y:Operand)(ho:o.op=.binOp .eql t x y u)
  (xs ys:Array Value) (hx:a.eval x=.agg xs) (hy:a.eval y=.agg ys) (hg:P.eqGuardType P.depth t=false) (r:Bool) (hr:(Op.equal t (.agg xs) (.agg ys)).run P w=.ok r w) (h:wpList P ops Q rest (a.put o.dst (.bool r)) w):wpList P ops Q (o::rest) a w:=by
 refine Go.BigFrame.wpList_want hw fun K hK=>?_;unfold Oper.wp execOp;simp only[ho,hx,hy,eqGuard,binOp,Sem.run_bind];simp[hg,hr];exact hK _ _ h
end Go.Proofs.YthlhgiihngcobaaGreatDoor
