/-
  PROVED HERE: package valid's two rules, as package course calls them; package course; package course; package course.
  Conditions: none but those that each theorem's own premises say.
-/
import Derived.Test.YthlhgiihngcobaaGreatDoorMgbt
namespace Go.Proofs.YthlhgiihngcobaaGreatDoor
open Go.RowKit
def zmc(N:Nat)(seesF:Crs→Int→Int→Int):Prop:=∀(w0 w:World)(R:Nat)(S F:Value)(q:Crs)(c:zcf)(t item:Int),zas w0 w R S F q c→zaX 1000 q→1≤t→t≤6→(q.began t).isSome=true →
 Calls Tryz.prog N #[.pointer(some⟨R,0,none⟩),.int .i64 t,.int .i64 item]w fun e w'=>e=.returned(.int .i64(seesF q t item))∧Below w.heap.size w w'
def zyj(N:Nat)(fallF:Crs→Int→Bool):Prop:=∀(w0 w:World)(R:Nat)(S F:Value)(q:Crs)(c:zcf)(t:Int),zas w0 w R S F q c→zaX 1000 q→1≤t→t≤6→(q.began t).isSome=true →
 Calls Tryz.prog N #[.pointer(some⟨R,0,none⟩),.int .i64 t]w fun e w'=>e=.returned(.bool(fallF q t))∧Below w.heap.size w w'
def zoX(K:World→Prop)(N:Nat)(B C:Array Value)(fallF:Crs→Int→Bool):Prop:=∀(w0 w:World)(R:Nat)(S F:Value)(q:Crs)(c:zcf)(t:Int),K w0→zas w0 w R S F q c→zaX 999 q→1≤t→t≤6→(q.began t).isSome=true →
 Calls Tryz.prog N(B ++ #[.pointer(some⟨R,0,none⟩),.int .i64 t]++C)w fun e w'=>e=.returned(.bool(fallF q t))∧Below w.heap.size w w'
theorem zyj.k {N:Nat} {fallF:Crs→Int→Bool}(h:zyj N fallF):zoX(fun _=>True)N #[] #[]fallF:=fun w0 w R S F q c t _ h1 h2 h3 h4 h5=>by
 rw[Array.append_empty,Array.empty_append]
 exact h w0 w R S F q c t h1 h2.more h3 h4 h5
theorem zAh:zmc 89 zhx:=by
 intro w0 w R S F q c t item h hq h1 h6 hb
 have HC:=zae(zyo h hq item)
 unfold zhx
 clear h hq h1 h6 hb
 go_enter Tryz.func89,Tryz.ntmps89
 go_wp2_with(go_at_call 148;refine HC.out.mono ?_;rintro e w1⟨rfl,hb1⟩)
 go_ret
 exact⟨rfl,hb1⟩
def zj2(q:Crs)(t o:Int)(x:Op3):Bool:=x.2.2 != t && inB(q.wrote o)x.2.1
set_option maxHeartbeats 4000000 in
set_option maxRecDepth 100000 in
theorem zv9 {w0 w:World} {R:Nat} {S F:Value} {q:Crs} {c:zcf}(h:zas w0 w R S F q c)(hq:zaX 1000 q)(t o:Int)(x:Op3)(ho1:1≤o)(ho6:o≤6)(P1 P2 P3:Nat)(k1:w.cell?⟨P1,0,none⟩=some(.int .i64 t))(k2:w.cell?⟨P2,0,none⟩=some(.pointer(some⟨R,0,none⟩)))(k3:w.cell?⟨P3,0,none⟩=some(.int .i64 o)) :
  Calls Tryz.prog 154(#[seV x] ++ #[.pointer(some⟨P1,0,none⟩),.pointer(some⟨P2,0,none⟩),.pointer(some⟨P3,0,none⟩)])w fun e w'=>e=.returned(.bool(zj2 q t o x))∧Below w.heap.size w w':=by
 obtain⟨a,i,f⟩:=x
 have HC:Hid(∀W,Below w.heap.size w W→Calls Tryz.prog 155 #[.pointer(some⟨R,0,none⟩),.int .i64 o,.int .i64 i]W fun e w'=>e=.returned(.bool(inB(q.wrote o)i))∧w'=W):=fun W hW=>zdu(h.below hW)ho1 ho6 i(hq.lenW _)
 have l1:=World.block_lt_of_cell? w _ k1
 have l2:=World.block_lt_of_cell? w _ k2
 have l3:=World.block_lt_of_cell? w _ k3
 unfold seV zj2
 simp only at l1 l2 l3
 clear h hq
 cases hf:(f != t)with
 | false =>
   go_enter Tryz.func154,Tryz.ntmps154
   go_wp2_with fail
   go_ret
   exact⟨rfl,(Below.refl _ w).alloc(Nat.le_refl _)_⟩
 | true =>
   go_enter Tryz.func154,Tryz.ntmps154
   go_wp2_with(go_at_call 155;refine(HC.out _((Below.refl _ w).alloc(Nat.le_refl _)_)).mono ?_;rintro e w1⟨rfl,hw1⟩;rw[hw1];clear hw1)
   go_ret
   exact⟨rfl,(Below.refl _ w).alloc(Nat.le_refl _)_⟩
theorem znM:∀(args:Array Value)(W:World),(callFunc 154 args).run Tryz.prog W=.ok(.enter 154 args)W:=fun args W=>by kernel_rfl
theorem zpe:∀(args:Array Value)(W:World),(callFunc 152 args).run Tryz.prog W=.ok(.enter 152 args)W:=fun args W=>by kernel_rfl
set_option maxHeartbeats 4000000 in
set_option maxRecDepth 100000 in
theorem zwC {w0 w:World} {R:Nat} {S F:Value} {q:Crs} {c:zcf}(h:zas w0 w R S F q c)(hq:zaX 1000 q)(t o:Int)(ho1:1≤o)(ho6:o≤6)(rd:List Op3)(v:Value)(hv:zai w v rd)(hrd:rd.length≤1000)(P0 P1 P2:Nat)(k0:w.cell?⟨P0,0,none⟩=some v)(k1:w.cell?⟨P1,0,none⟩=some(.int .i64 t))(k2:w.cell?⟨P2,0,none⟩=some(.pointer(some⟨R,0,none⟩))) :
  Calls Tryz.prog 152(#[.int .i64 o] ++ #[.pointer(some⟨P0,0,none⟩),.pointer(some⟨P1,0,none⟩),.pointer(some⟨P2,0,none⟩)])w fun e w'=>e=.returned(.bool(rd.any(zj2 q t o)))∧Below w.heap.size w w':=by
 have l0:=World.block_lt_of_cell? w _ k0
 have l1:=World.block_lt_of_cell? w _ k1
 have l2:=World.block_lt_of_cell? w _ k2
 simp only at l0 l1 l2
 have HC:Hid(∀W,Below w.heap.size w W→∀P3,W.cell?⟨P3,0,none⟩=some(.int .i64 o)→Calls Tryz.prog 153 #[v,.func(.func 154) #[] #[.pointer(some⟨P1,0,none⟩),.pointer(some⟨P2,0,none⟩),.pointer(some⟨P3,0,none⟩)]]W fun r w'=>r=.returned(.bool(rd.any(zj2 q t o)))∧Below W.heap.size W w'):=fun W hW P3 k3=>by
  refine zdS rd v _ _ _ W znM(hv.below hW(Nat.le_refl _))(by omega)fun W2 hW2 e _=>?_
  have hW3:Below w.heap.size w W2:=hW.trans(hW2.mono hW.size)
  exact zv9(h.below hW3)hq t o e ho1 ho6 P1 P2 P3((hW3.cell(p:=⟨P1,0,none⟩)l1).trans k1)((hW3.cell(p:=⟨P2,0,none⟩)l2).trans k2)((hW2.cell(p:=⟨P3,0,none⟩)(World.block_lt_of_cell? W _ k3)).trans k3)
 obtain⟨ad,b,off,cap,rfl,-⟩:=hv
 obtain⟨n,hn⟩:∃n,rd.length=n:=⟨_,rfl⟩
 rw[hn]at k0 HC
 clear h hq hrd hn
 go_enter Tryz.func152,Tryz.ntmps152
 go_wp2_with(go_at_call 153;refine(HC.out _((Below.refl _ w).alloc(Nat.le_refl _)_)w.heap.size(by simp)).mono ?_;rintro e w1⟨rfl,hb1⟩)
 go_ret
 exact⟨rfl,((Below.refl _ w).alloc(Nat.le_refl _)_).trans(hb1.mono(by simp))⟩
set_option maxHeartbeats 4000000 in
set_option maxRecDepth 100000 in
theorem zBu:zyj 90 zgX:=by
 intro w0 w R S F q c t h hq h1 h6 hb
 obtain⟨n,hn⟩:=Option.isSome_iff_exists.1 hb
 have e0:zgX q t=(q.done.drop n).any fun o=>(q.read t).any(zj2 q t o):=by unfold zgX;rw[hn];rfl
 rw[e0]
 have HR:Hid(∀W,Below w.heap.size w W→Calls Tryz.prog 149 #[.pointer(some⟨R,0,none⟩),.int .i64 t]W fun e w'=>∃v',e=.returned v'∧w'.ownsRow W.heap.size 230 3 v'(q.read t).length(flat(q.read t))∧Below W.heap.size W w'):=fun W hW=>zln(h.below hW)h1 h6(hq.lenR t)
 have HS:Hid(∀W,Below w.heap.size w W→Calls Tryz.prog 151 #[.pointer(some⟨R,0,none⟩),.int .i64 t]W fun e w'=>∃v',e=.returned v'∧zaf w' v'(q.done.drop n)∧Below W.heap.size W w'):=fun W hW=>znp(h.below hW)h1 h6 hn(hq.cnt t n hn)hq.lenD
 have HC:Hid(∀W,Below w.heap.size w W→∀u v P0 P1 P2,zaf W u(q.done.drop n)→zai W v(q.read t)→W.cell?⟨P0,0,none⟩=some v→W.cell?⟨P1,0,none⟩=some(.int .i64 t)→W.cell?⟨P2,0,none⟩=some(.pointer(some⟨R,0,none⟩))→Calls Tryz.prog 150 #[u,.func(.func 152) #[] #[.pointer(some⟨P0,0,none⟩),.pointer(some⟨P1,0,none⟩),.pointer(some⟨P2,0,none⟩)]]W fun r w'=>r=.returned(.bool((q.done.drop n).any fun o=>(q.read t).any(zj2 q t o)))∧Below W.heap.size W w'):=fun W hW u v P0 P1 P2 hu hv k0 k1 k2=>by
  refine zdP(q.done.drop n)u _ _ _ W zpe hu(by have:=hq.lenD;rw[List.length_drop];omega)fun W2 hW2 e he=>?_
  have h6:=hq.six e(List.mem_of_mem_drop he)
  exact zwC(h.below(hW.trans(hW2.mono hW.size)))hq t e h6.1 h6.2(q.read t)v(hv.below hW2(Nat.le_refl _))(hq.lenR t)P0 P1 P2((hW2.cell(p:=⟨P0,0,none⟩)(World.block_lt_of_cell? W _ k0)).trans k0)((hW2.cell(p:=⟨P1,0,none⟩)(World.block_lt_of_cell? W _ k1)).trans k1)((hW2.cell(p:=⟨P2,0,none⟩)(World.block_lt_of_cell? W _ k2)).trans k2)
 obtain⟨N,hN⟩:∃N,(q.read t).length=N:=⟨_,rfl⟩
 rw[hN]at HR
 have HN:=zae hN
 clear h hq h1 h6 hb hn e0 hN
 go_enter Tryz.func90,Tryz.ntmps90
 obtain⟨P,hP⟩:∃P,w.heap.size=P:=⟨_,rfl⟩
 go_wp2_with fail
 obtain⟨W,hW⟩:∃W,W=(w.alloc(.cells #[.pointer(some⟨R,0,none⟩)]167)).alloc(.cells #[.int .i64 t]3):=⟨_,rfl⟩
 rw[←hW]
 have hbW:Below w.heap.size w W:=by rw[hW];exact((Below.refl _ w).alloc(Nat.le_refl _)_).alloc(by simp)_
 have k2:W.cell?⟨P,0,none⟩=some(.pointer(some⟨R,0,none⟩)):=by rw[hW,←hP];simp
 have k1:W.cell?⟨P+1,0,none⟩=some(.int .i64 t):=by rw[hW,←hP];simp
 clear hW
 refine(HR.out W hbW).mono ?_
 rintro e w1⟨v1,rfl,ho1,hb1⟩
 obtain⟨ad1,cp1,rfl,-⟩:=zad ho1
 have hops:zai w1(.slice ad1 N cp1)(q.read t):=zbR ho1 HN.out
 have HB1:Hid(Below w.heap.size w w1):=hbW.trans(hb1.mono hbW.size)
 have m2:=(hb1.cell(p:=⟨P,0,none⟩)(World.block_lt_of_cell? W _ k2)).trans k2
 have m1:=(hb1.cell(p:=⟨P+1,0,none⟩)(World.block_lt_of_cell? W _ k1)).trans k1
 have HO:=zae hops
 clear ho1 hb1 k1 k2 hbW hops
 have q2:=World.block_lt_of_cell? w1 _ m2
 have q1:=World.block_lt_of_cell? w1 _ m1
 simp only at q1 q2
 go_upto_region 2 with(fail)
 obtain⟨W3,hW3⟩:∃W,W=w1.alloc(.cells #[.slice ad1 N cp1]75):=⟨_,rfl⟩
 rw[←hW3]
 have hb3:Below w1.heap.size w1 W3:=by rw[hW3];exact(Below.refl _ w1).alloc(Nat.le_refl _)_
 have n0:W3.cell?⟨w1.heap.size,0,none⟩=some(.slice ad1 N cp1):=by rw[hW3];simp
 have n2:=(hb3.cell(p:=⟨P,0,none⟩)q2).trans m2
 have n1:=(hb3.cell(p:=⟨P+1,0,none⟩)q1).trans m1
 have HB3:Hid(Below w.heap.size w W3):=HB1.out.trans(hb3.mono HB1.out.size)
 have HO3:=zae(HO.out.below hb3(Nat.le_refl _))
 clear hW3 hb3 m1 m2 q1 q2
 obtain⟨P5,hP5⟩:∃P,P=w1.heap.size:=⟨_,rfl⟩
 rw[←hP5]at n0 ⊢
 clear hP5 hP
 go_wp2_with fail
 refine(HS.out W3 HB3.out).mono ?_
 rintro e w4⟨v4,rfl,hi4,hb4⟩
 have r0:=(hb4.cell(p:=⟨P5,0,none⟩)(World.block_lt_of_cell? W3 _ n0)).trans n0
 have r2:=(hb4.cell(p:=⟨P,0,none⟩)(World.block_lt_of_cell? W3 _ n2)).trans n2
 have r1:=(hb4.cell(p:=⟨P+1,0,none⟩)(World.block_lt_of_cell? W3 _ n1)).trans n1
 have HB4:Hid(Below w.heap.size w w4):=HB3.out.trans(hb4.mono HB3.out.size)
 have HCC:=zae(HC.out w4 HB4.out v4(.slice ad1 N cp1)P5(P+1)P hi4(HO3.out.below hb4(Nat.le_refl _))r0 r1 r2)
 clear hi4 hb4
 go_wp2_with fail
 refine HCC.out.mono ?_
 rintro e w5⟨rfl,hb5⟩
 go_wp2_with fail
 go_ret
 exact⟨rfl,HB4.out.trans(hb5.mono HB4.out.size)⟩
abbrev zbL(N:Nat):Prop:=∀(args:Array Value)(W:World),(callFunc N args).run Tryz.prog W=.ok(.enter N args)W
theorem zx1(b:Int→Option Nat)(t:Int)(n:Nat):zhr(setF b t(some n))=setF(zhr b)t(some(.int .i64(n:Int))):=by
 funext u
 unfold zhr
 by_cases e:u=t
 ·subst e;rw[setF_same,setF_same];rfl
 ·rw[zaa _ _ e,zaa _ _ e]
theorem zmw(b:Int→Option Nat)(t:Int):(zhr b t).isSome=(b t).isSome:=by unfold zhr;cases b t <;> rfl
set_option maxHeartbeats 8000000 in
set_option maxRecDepth 100000 in
theorem zgs {w0 w:World} {R:Nat} {S F:Value} {q:Crs} {c:zcf}(h:zas w0 w R S F q c) {t:Int}(h1:1≤t)(h6:t≤6) :
  Calls Tryz.prog 204 #[.pointer(some⟨R,0,none⟩),.int .i64 t]w fun e w'=>e=.returned(.tuple #[])∧zas w0 w' R S F(begQ q t)c∧zac(fun k=>k=c.B)w w':=by
 have c3:=h.c3
 have c2:=h.c2
 obtain⟨m,hm⟩:=h.beg
 have hwf:=za2 h1 h6
 have HM:=zae hm
 have HL:=zae h
 cases hb:(q.began t).isSome with
 | true =>
   have HQ:Hid(begQ q t=q):=by show begQ q t=q;unfold begQ;rw[if_pos hb]
   have HB:Hid((zhr q.began t).isSome=true):=by show(zhr q.began t).isSome=true;rw[zmw];exact hb
   obtain⟨u,hu⟩:∃u:Nat,(zhr q.began t).getD(.int .i64 0)=.int .i64(u:Int):=by
    obtain⟨n,hn⟩:=Option.isSome_iff_exists.1 hb
    exact⟨n,by unfold zhr;rw[hn];rfl⟩
   have HU:=zae hu
   clear h hm h1 h6 hb hu c2
   go_enter Tryz.func204,Tryz.ntmps204
   go_wp2_with(at_lookup;refine zbW _ rfl(.tmp 10)(.tmp 11)148 true rfl 3 Tryz.underlying148(.int .i64 0)(zep _)c.B m(zhr q.began)rfl HM.out t rfl hwf(.int .i64(u:Int))true HU.out HB.out ?_)
   go_end0
   exact⟨rfl,by rw[HQ.out];exact HL.out,zac.refl _ _⟩
 | false =>
   have HQ:Hid(begQ q t={ q with began:=setF q.began t(some q.done.length) }):=by show begQ q t=_;unfold begQ;rw[if_neg(by rw[hb];decide)]
   have HB:Hid((zhr q.began t).isSome=false):=by show(zhr q.began t).isSome=false;rw[zmw];exact hb
   have HU:Hid((zhr q.began t).getD(.int .i64 0)=.int .i64 0):=by
    show _=_
    have:q.began t=none:=by simpa using hb
    unfold zhr;rw[this];rfl
   obtain⟨ad,cap,e1,-⟩:=zad h.done
   rw[e1]at c2
   obtain⟨N,hN⟩:∃N,q.done.length=N:=⟨_,rfl⟩
   rw[hN]at c2 HQ
   obtain⟨X,hup,hmX,htX⟩:=(zay.drew hm).store(v:=.int .i64(N:Int))Tryz.underlying148 h1 h6
   have htX':zac(fun k=>k=c.B)w X:=⟨htX.os,htX.tape,htX.output,htX.size,htX.block⟩
   have HX:Hid(zas w0 X R S F(begQ q t)c∧zac(fun k=>k=c.B)w X):=by
    refine⟨?_,htX'⟩
    rw[HQ.out]
    rw[←zx1]at hmX
    exact h.setBeg hmX htX'
   have x2:X.cell?⟨R,2,none⟩=some(.slice ad N cap):=(HX.out.2.cell(p:=⟨R,2,none⟩)h.lt(fun e=>h.apart 0 2 R(by omega)(by omega)(by decide)rfl e)).trans c2
   have x3:X.cell?⟨R,3,none⟩=some(.map(some c.B)):=(HX.out.2.cell(p:=⟨R,3,none⟩)h.lt(fun e=>h.apart 0 2 R(by omega)(by omega)(by decide)rfl e)).trans c3
   clear h hm h1 h6 hb e1 hN hmX htX htX'
   go_enter Tryz.func204,Tryz.ntmps204
   go_wp2_with(at_lookup;refine zbW _ rfl(.tmp 10)(.tmp 11)148 true rfl 3 Tryz.underlying148(.int .i64 0)(zep _)c.B m(zhr q.began)rfl HM.out t rfl hwf(.int .i64 0)false HU.out HB.out ?_)
   go_region_held3(fun w'=>w'.cell?⟨R,2,none⟩=some(.slice ad N cap)∧w'.cell?⟨R,3,none⟩=some(.map(some c.B)))(first|exact⟨c2,c3⟩|exact⟨x2,x3⟩)(fail)
   all_goals
    go_wp2_with fail
    go_end0
    exact⟨rfl,HX.out⟩
structure zdD(w:World)(P:Nat)(t a i:Int):Prop where
 p0:w.cell?⟨P,0,none⟩=some(.int .i64 t)
 p1:w.cell?⟨P,1,none⟩=some(.int .i64 a)
 p2:w.cell?⟨P,2,none⟩=some(.int .i64 i)
theorem zdD.lt {w:World} {P:Nat} {t a i:Int}(h:zdD w P t a i):P<w.heap.size:=World.block_lt_of_cell? w _ h.p0
theorem zdD.turn {G:Nat→Prop} {w w1:World} {P:Nat} {t a i:Int}(h:zdD w P t a i)(ht:zac G w w1)(hP:¬G P):zdD w1 P t a i :=
 ⟨(ht.cell(p:=⟨P,0,none⟩)h.lt hP).trans h.p0,(ht.cell(p:=⟨P,1,none⟩)h.lt hP).trans h.p1,(ht.cell(p:=⟨P,2,none⟩)h.lt hP).trans h.p2⟩
theorem zdD.below {w w1:World} {P:Nat} {t a i:Int}(h:zdD w P t a i)(hb:Below w.heap.size w w1):zdD w1 P t a i:=h.turn(zac.of_below(F:=fun _=>False)hb)fun hf=>hf
theorem zgT(w:World)(t a i:Int)(T:TypeId):zdD(w.alloc(.cells #[.int .i64 t,.int .i64 a,.int .i64 i]T))w.heap.size t a i:=⟨by simp,by simp,by simp⟩
set_option maxHeartbeats 8000000 in
set_option maxRecDepth 100000 in
theorem zsr {NS:Nat} {seesF:Crs→Int→Int→Int}(hcall:zbL NS)(hS:zmc NS seesF) {w0 w:World} {R:Nat} {F:Value} {q:Crs} {c:zcf}(h:zas w0 w R(.func(.func NS) #[] #[])F q c)(hq:zaX 1000 q) {t:Int}(a i:Int)(h1:1≤t)(h6:t≤6)(hb:(q.began t).isSome=true) :
  Calls Tryz.prog 205 #[.pointer(some⟨R,0,none⟩),.agg #[.int .i64 t,.int .i64 a,.int .i64 i]]w fun e w'=>e=.returned(.int .i64(zxd seesF q t i))∧Below w.heap.size w w':=by
 have HL:=zae h
 have HQ:=zae hq
 have HS:Hid(∀W,Below w.heap.size w W→Calls Tryz.prog NS #[.pointer(some⟨R,0,none⟩),.int .i64 t,.int .i64 i]W fun e w'=>e=.returned(.int .i64(seesF q t i))∧Below W.heap.size W w'):=fun W hW=>hS w0 W R _ F q c t i(h.below hW)hq h1 h6 hb
 have HW:Hid(∀W,Below w.heap.size w W→Calls Tryz.prog 155 #[.pointer(some⟨R,0,none⟩),.int .i64 t,.int .i64 i]W fun e w'=>e=.returned(.bool(inB(q.wrote t)i))∧w'=W):=fun W hW=>zdu(h.below hW)h1 h6 i(hq.lenW t)
 have HK:Hid(∀W,Below w.heap.size w W→W.cell?⟨R,0,none⟩=some(.func(.func NS) #[] #[])):=fun W hW=>(h.below hW).c0
 obtain⟨r,hr⟩:∃r,zxd seesF q t i=r:=⟨_,rfl⟩
 rw[hr]
 have HR:=zae hr
 clear h hq hS hb h1 h6 hr
 go_enter Tryz.func205,Tryz.ntmps205
 go_upto_region 1 with(fail)
 obtain⟨W,hW⟩:∃W,W=w.alloc(.cells #[.int .i64 t,.int .i64 a,.int .i64 i]103):=⟨_,rfl⟩
 rw[←hW]
 have hbx:zdD W w.heap.size t a i:=by rw[hW];exact zgT _ _ _ _ _
 have HB:Hid(Below w.heap.size w W):=by show Below _ _ _;rw[hW];exact(Below.refl _ w).alloc(Nat.le_refl _)_
 obtain⟨P,hP⟩:∃P,P=w.heap.size:=⟨_,rfl⟩
 rw[←hP]at hbx ⊢
 obtain⟨p0,p1,p2⟩:=hbx
 have hPW:=World.block_lt_of_cell? W _ p0
 simp only at hPW
 have k0:=HK.out W HB.out
 have HWW:=zae(HW.out W HB.out)
 have hRW:=World.block_lt_of_cell? W _ k0
 simp only at hRW
 clear hW hP
 cases hin:inB(q.wrote t)i with
 | true =>
   have HIN:=zae hin
   rw[hin]at HWW
   clear hin
   go_wp2_with fail
   refine HWW.out.mono ?_
   rintro e w1⟨rfl,hw1⟩
   rw[hw1]
   clear hw1
   go_wp2_with fail
   go_ret
   exact⟨by rw[←HR.out,zxd,if_pos HIN.out];rfl,HB.out⟩
 | false =>
   have HIN:=zae hin
   rw[hin]at HWW
   clear hin
   obtain⟨B,hA1,hA2⟩:∃B,B≤W.heap.size∧W.heap.size≤B:=⟨_,Nat.le_refl _,Nat.le_refl _⟩
   have hne:Nonempty(zbl B W):=⟨⟨W,Below.refl _ _⟩⟩
   have g0:∀y:zbl B W,y.W.cell?⟨P,0,none⟩=some(.int .i64 t):=fun y=>(y.h.cell(p:=⟨P,0,none⟩)(by show P<B;omega)).trans p0
   have g2:∀y:zbl B W,y.W.cell?⟨P,2,none⟩=some(.int .i64 i):=fun y=>(y.h.cell(p:=⟨P,2,none⟩)(by show P<B;omega)).trans p2
   have gR:∀y:zbl B W,y.W.cell?⟨R,0,none⟩=some(.func(.func NS) #[] #[]):=fun y=>(y.h.cell(p:=⟨R,0,none⟩)(by show R<B;omega)).trans k0
   have HCQ:Hid(∀y:zbl B W,Calls Tryz.prog NS #[.pointer(some⟨R,0,none⟩),.int .i64 t,.int .i64 i]y.W fun e w'=>e=.returned(.int .i64(seesF q t i))∧∃z:zbl B W,w'=z.W):=fun y=>zbl.at y hA1(HS.out y.W(HB.out.trans(y.h.mono(by have:=HB.out.size;omega))))
   go_wp2_with fail
   refine HWW.out.mono ?_
   rintro e w1⟨rfl,hw1⟩
   rw[hw1]
   clear hw1 p0 p1 p2 k0
   go_wp2_with fail
   refine zda B(by kernel_rfl)(by kernel_rfl) ?_
   repeat(first|go_big_quiet_skip|(go_big_quiet_want;go_big_quiet_op;first|go_big_quiet_on|(refine⟨_,fun y=>HCQ.out y,?_⟩;go_big_quiet_on)))
   refine wpQuiet_nil ?_
   intro V hV
   obtain⟨y,rfl⟩:=hV
   have HBY:Hid(Below w.heap.size w y.W):=HB.out.trans(y.h.mono(by have:=HB.out.size;omega))
   go_wp2_with fail
   go_ret
   exact⟨by rw[←HR.out,zxd,if_neg(by rw[HIN.out];decide)];rfl,HBY.out⟩
def zde(w0 w':World)(R:Nat)(S F:Value)(q:Crs):Prop:=∃c',zas w0 w' R S F q c'
theorem zlp(w:World)(x:Int)(t:TypeId):∀j u,([Value.int .i64 x]:List Value)[j]? = some u→(w.alloc(.cells #[.int .i64 x]t)).cell?((⟨w.heap.size,0,none⟩:Addr).add j)=some u:=by
 intro j u hj
 rw[Addr.add_lit]
 rcases j with _|j
 ·simpa using hj
 ·simp at hj
theorem zkN(x:Int):∀u∈([Value.int .i64 x]:List Value),u.oneCell'=true:=by intro u hu;rw[List.mem_singleton.1 hu];rfl
theorem zfQ {w0 w w1:World} {R:Nat} {S F:Value} {q:Crs} {c:zcf} {t a i:Int}(h:zas w0 w R S F q c)(ht:zac(fun k=>k=c.B)(w.alloc(.cells #[.int .i64 t,.int .i64 a,.int .i64 i]103))w1):zdD w1 w.heap.size t a i∧(∀j k,j<19→zbU R c j k→k≠w.heap.size):=by
 refine⟨(zgT w t a i _).turn ht fun e=>?_,fun j k hj hk e=>?_⟩
 ·have:=h.part_lt 2 c.B(by omega)rfl
  omega
 ·have:=h.part_lt j k hj hk
  omega
set_option maxHeartbeats 8000000 in
set_option maxRecDepth 100000 in
theorem zsE {w0 w:World} {R:Nat} {S F:Value} {q:Crs} {c:zcf}(h:zas w0 w R S F q c) {t:Int}(a i:Int)(h1:1≤t)(h6:t≤6)(ha1:a≠1)(ha2:a≠2)(ha3:a≠3) :
  Calls Tryz.prog 161 #[.pointer(some⟨R,0,none⟩),.agg #[.int .i64 t,.int .i64 a,.int .i64 i]]w fun e w'=>e=.returned(.tuple #[])∧zde w0 w' R S F(begQ q t):=by
 have HL:=zae h
 have b1:(a == 1)=false:=by simpa using ha1
 have b2:(a == 2)=false:=by simpa using ha2
 have b3:(a == 3)=false:=by simpa using ha3
 have HBG:=zae(zgs(h.alloc(.cells #[.int .i64 t,.int .i64 a,.int .i64 i]103))h1 h6)
 clear h ha1 ha2 ha3
 go_enter Tryz.func161,Tryz.ntmps161
 go_wp2_with fail
 refine HBG.out.mono ?_
 rintro e w1⟨rfl,hc1,ht1⟩
 obtain⟨hbx,-⟩:=zfQ HL.out ht1
 obtain⟨p0,p1,p2⟩:=hbx
 have HC1:=zae hc1
 clear hc1 ht1
 go_wp2_with fail
 go_end0
 exact⟨rfl,c,HC1.out⟩
set_option maxHeartbeats 8000000 in
set_option maxRecDepth 100000 in
theorem zn3 {K:World→Prop} {NF:Nat} {BF CF:Array Value} {fallF:Crs→Int→Bool}(hcall:zbL NF)(hF:zoX K NF BF CF fallF) {w0 w:World}(hK0:K w0) {R:Nat} {S:Value} {q:Crs} {c:zcf}(h:zas w0 w R S(.func(.func NF)BF CF)q c)(hq:zaX 999 q) {t:Int}(i:Int)(h1:1≤t)(h6:t≤6) :
  Calls Tryz.prog 161 #[.pointer(some⟨R,0,none⟩),.agg #[.int .i64 t,.int .i64 3,.int .i64 i]]w fun e w'=>e=.returned(.tuple #[])∧zde w0 w' R S(.func(.func NF)BF CF)(if fallF(begQ q t)t=true then begQ q t else doneQ(begQ q t)t):=by
 have HL:=zae h
 have HQ:=zae(hq.beg t)
 have HBG:=zae(zgs(h.alloc(.cells #[.int .i64 t,.int .i64 3,.int .i64 i]103))h1 h6)
 have hbt:((begQ q t).began t).isSome=true:=by
  unfold begQ
  split
  ·assumption
  ·show(setF q.began t(some q.done.length)t).isSome=true
   rw[setF_same];rfl
 obtain⟨q1,hq1⟩:∃q1,begQ q t=q1:=⟨_,rfl⟩
 rw[hq1]at HBG HQ hbt ⊢
 have HF:Hid(∀W,zas w0 W R S(.func(.func NF)BF CF)q1 c→Calls Tryz.prog NF(BF ++ #[.pointer(some⟨R,0,none⟩),.int .i64 t]++CF)W fun e w'=>e=.returned(.bool(fallF q1 t))∧Below W.heap.size W w'):=fun W hW=>hF w0 W R S _ q1 c t hK0 hW HQ.out h1 h6 hbt
 obtain⟨i0,hi,hz0,hs0,hy0⟩:=info_parts zb0
 have HI:Hid(Tryz.prog.info? 3=some i0∧i0.zero=some(.int .i64 0)∧i0.size=1∧i0.bytes=8):=⟨hi,hz0,hs0,hy0⟩
 obtain⟨r,hr⟩:∃r,(if fallF q1 t=true then q1 else doneQ q1 t)=r:=⟨_,rfl⟩
 rw[hr]
 have HR:=zae hr
 clear h hF hq1 hbt hi hz0 hs0 hy0 hr hq
 go_enter Tryz.func161,Tryz.ntmps161
 go_wp2_with fail
 refine HBG.out.mono ?_
 rintro e W⟨rfl,hc1,ht1⟩
 obtain⟨hbx,hap⟩:=zfQ HL.out ht1
 have HAP:=zae hap
 obtain⟨P,hP⟩:∃P,P=w.heap.size:=⟨_,rfl⟩
 rw[←hP]at hbx HAP
 have HBX:=zae hbx
 obtain⟨p0,p1,p2⟩:=hbx
 have HC1:=zae hc1
 have k1:=hc1.c1
 have hRW:=hc1.lt
 have hPW:=HBX.out.lt
 rw[←hP]
 clear hc1 ht1 hap hP
 obtain⟨B,hA1,hA2⟩:∃B,B≤W.heap.size∧W.heap.size≤B:=⟨_,Nat.le_refl _,Nat.le_refl _⟩
 have hne:Nonempty(zbl B W):=⟨⟨W,Below.refl _ _⟩⟩
 have g0:∀y:zbl B W,y.W.cell?⟨P,0,none⟩=some(.int .i64 t):=fun y=>(y.h.cell(p:=⟨P,0,none⟩)(by show P<B;omega)).trans p0
 have gR:∀y:zbl B W,y.W.cell?⟨R,1,none⟩=some(.func(.func NF)BF CF):=fun y=>(y.h.cell(p:=⟨R,1,none⟩)(by show R<B;omega)).trans k1
 have HCQ:Hid(∀y:zbl B W,Calls Tryz.prog NF(BF ++ #[.pointer(some⟨R,0,none⟩),.int .i64 t]++CF)y.W fun e w'=>e=.returned(.bool(fallF q1 t))∧∃z:zbl B W,w'=z.W):=fun y=>zbl.at y hA1(HF.out y.W(HC1.out.below(y.h.mono(by omega))))
 simp only[Array.append_assoc]at HCQ
 cases hf:fallF q1 t with
 | true =>
   have HR2:Hid(r=q1):=by show r=q1;rw[←HR.out,if_pos hf]
   rw[hf]at HCQ
   clear hf
   go_wp2_with fail
   refine zda B(by kernel_rfl)(by kernel_rfl) ?_
   repeat(first|go_big_quiet_skip|(go_big_quiet_want;go_big_quiet_op;first|go_big_quiet_on|(refine⟨_,fun y=>HCQ.out y,?_⟩;go_big_quiet_on)))
   refine wpQuiet_nil ?_
   intro V hV
   obtain⟨y,rfl⟩:=hV
   have HY:=zae(HC1.out.below(y.h.mono(by omega)))
   go_wp2_with fail
   go_end0
   exact⟨rfl,by rw[HR2.out];exact⟨c,HY.out⟩⟩
 | false =>
   have HR2:Hid(r=doneQ q1 t):=by show r=doneQ q1 t;rw[←HR.out,if_neg(by rw[hf];decide)]
   rw[hf]at HCQ
   clear hf
   go_wp2_with fail
   refine zda B(by kernel_rfl)(by kernel_rfl) ?_
   repeat(first|go_big_quiet_skip|(go_big_quiet_want;go_big_quiet_op;first|go_big_quiet_on|(refine⟨_,fun y=>HCQ.out y,?_⟩;go_big_quiet_on)))
   refine wpQuiet_nil ?_
   intro V hV
   obtain⟨y,rfl⟩:=hV
   have HY:=zae(HC1.out.below(y.h.mono(by omega)))
   obtain⟨q0,-,-⟩:=HBX.out.below(y.h.mono(by omega))
   obtain⟨V,hV⟩:∃V,V=y.W:=⟨_,rfl⟩
   rw[←hV]at HY q0 ⊢
   clear hV g0 gR HCQ p0 p1 p2 k1 hRW hPW hA1 hA2
   obtain⟨ad5,c5,e5,-⟩:=zad HY.out.done
   obtain⟨n5,hn5⟩:∃n,q1.done.length=n:=⟨_,rfl⟩
   have hl5:=HQ.out.lenD
   rw[hn5]at e5 hl5
   have c2:=HY.out.c2
   rw[e5]at c2
   have hRV:=HY.out.lt
   have hPV:=World.block_lt_of_cell? V _ q0
   simp only at hPV
   have HSZ:Hid(w0.heap.size≤V.heap.size):=HY.out.old.size
   have HV:Hid(V.ownsRow w0.heap.size 3 1(.slice ad5 n5 c5)n5(q1.done.map(Value.int .i64))):=by show World.ownsRow _ _ _ _ _ _ _;have:=HY.out.done;rw[e5,hn5]at this;exact this
   have HPT:Hid(∀v2 w2(ob:Obj),w2.ownsRow w0.heap.size 3 1 v2(n5+1)(q1.done.map(Value.int .i64)++[.int .i64 t])→(V.drew.alloc ob).grownBy w2(Value.slice ad5 n5 c5).ownBlock→(∀k,v2.ownBlock=some k→(Value.slice ad5 n5 c5).ownBlock=some k∨(V.drew.alloc ob).heap.size≤k)→w2.cell?⟨R,2,none⟩=some(.slice ad5 n5 c5)∧w2.frozen?⟨R,2,none⟩=false∧zde w0(w2.setCell⟨R,2,none⟩v2)R S(.func(.func NF)BF CF)(doneQ q1 t)):=fun v2 w2 ob h1 h2 h3=>by
    have htu:zac(fun k=>c.dv.ownBlock=some k)V w2:=by rw[e5];exact zbG h2
    obtain⟨u1,u2,u3⟩:=HY.out.pushDone(t:=t)htu(by rw[hn5];exact h1)fun k hk=>by
     rcases apart_later h3 k hk with h4|h4
     ·exact .inl(by rw[e5];exact h4)
     ·exact .inr h4
    rw[e5]at u1
    exact⟨u1,u2,_,u3⟩
   have hc2:∀ob:Obj,(V.alloc ob).cell?⟨R,2,none⟩=some(.slice ad5 n5 c5):=fun ob=>by rw[World.cell?_alloc_lt _ _⟨R,2,none⟩hRV];exact c2
   clear e5 hn5
   go_wp2_with fail
   go_region_law(refine zaC rfl(.tmp 72)(.tmp 75)24 rfl w0.heap.size 3 i0(.int .i64 0)1 8 Tryz.underlying24 HI.out.1 HI.out.2.1 HI.out.2.2.1 HI.out.2.2.2 rfl(by decide)(.slice ad5 n5 c5)n5(q1.done.map(Value.int .i64))(by simp[Act.eval])(HV.out.alloc _)⟨V.heap.size,0,none⟩1 1 [.int .i64 t](by simp[Act.eval])rfl(zlp V t _)(zkN t)(by unfold maxLen;omega)(by omega)(by have:=HSZ.out;simp;omega) ?_;intro v2 w2 hown2 hgr2 hap2;obtain⟨g0,g1,g2⟩:=HPT.out v2 w2 _ hown2 hgr2 hap2;clear hap2 hgr2;obtain⟨ad6,c6,rfl,-⟩:=zad hown2;have HK2:=zae g2;clear g2 hown2)
   all_goals
    go_wp2_with fail
    go_end0
    exact⟨rfl,by rw[HR2.out];exact HK2.out⟩
set_option maxHeartbeats 16000000 in
set_option maxRecDepth 100000 in
theorem zsi {w0 w:World} {R:Nat} {S F:Value} {q:Crs} {c:zcf}(h:zas w0 w R S F q c)(hq:zaX 999 q) {t:Int}(i:Int)(h1:1≤t)(h6:t≤6) :
  Calls Tryz.prog 161 #[.pointer(some⟨R,0,none⟩),.agg #[.int .i64 t,.int .i64 2,.int .i64 i]]w fun e w'=>e=.returned(.tuple #[])∧zde w0 w' R S F(zjE(begQ q t)t i):=by
 have HL:=zae h
 have HQ:=zae(hq.beg t)
 have HBG:=zae(zgs(h.alloc(.cells #[.int .i64 t,.int .i64 2,.int .i64 i]103))h1 h6)
 obtain⟨q1,hq1⟩:∃q1,begQ q t=q1:=⟨_,rfl⟩
 rw[hq1]at HBG HQ ⊢
 obtain⟨i0,hi,hz0,hs0,hy0⟩:=info_parts zb0
 have HI:Hid(Tryz.prog.info? 3=some i0∧i0.zero=some(.int .i64 0)∧i0.size=1∧i0.bytes=8):=⟨hi,hz0,hs0,hy0⟩
 obtain⟨dt,hdt⟩:∃d:Nat,t=d:=⟨t.toNat,by omega⟩
 have hwf:=za2 h1 h6
 have HT:Hid(1≤t∧t≤6∧t=dt∧dt<7):=⟨h1,h6,hdt,by omega⟩
 clear h hq1 hi hz0 hs0 hy0 hq h1 h6 hdt
 go_enter Tryz.func161,Tryz.ntmps161
 go_wp2_with fail
 refine HBG.out.mono ?_
 rintro e V⟨rfl,hc1,ht1⟩
 obtain⟨hbx,hap⟩:=zfQ HL.out ht1
 have HAP:=zae hap
 obtain⟨P,hP⟩:∃P,P=w.heap.size:=⟨_,rfl⟩
 rw[←hP]at hbx HAP
 have HBX:=zae hbx
 obtain⟨p0,p1,p2⟩:=hbx
 have HY:=zae hc1
 have hRV:=hc1.lt
 have hPV:=HBX.out.lt
 rw[←hP]
 obtain⟨m5,hm5⟩:=hc1.wr
 clear hc1 ht1 hap hP
 have k5:=HY.out.c5
 obtain⟨ad5,c5,e5,-⟩:=zad(HY.out.wrow dt HT.out.2.2.2)
 rw[←HT.out.2.2.1]at e5
 obtain⟨n5,hn5⟩:∃n,(q1.wrote t).length=n:=⟨_,rfl⟩
 have hl5:=HQ.out.lenW t
 rw[hn5]at e5 hl5
 have hbv:(c.hw t).getD(.slice none 0 0)=.slice ad5 n5 c5:=e5
 have HV:Hid(V.ownsRow w0.heap.size 3 1(.slice ad5 n5 c5)n5((q1.wrote t).map(Value.int .i64))):=by
  show World.ownsRow _ _ _ _ _ _ _
  have:=HY.out.wrow dt HT.out.2.2.2
  rw[←HT.out.2.2.1,e5,hn5]at this
  exact this
 have hlk0:(Instr.lookup 222(.map(some c.W))(.int .i64 t)false).run Tryz.prog V.drew=.ok(.slice ad5 n5 c5)V.drew:=by have:=(zay.drew hm5).look false Tryz.underlying222(zdt _)hwf;rw[hbv]at this;exact this
 have hlk1:∀ob:Obj,(Instr.lookup 222(.map(some c.W))(.int .i64 t)false).run Tryz.prog(V.drew.alloc ob)=.ok(.slice ad5 n5 c5)(V.drew.alloc ob):=fun ob=>by
  have h2:zay(V.drew.alloc ob)c.W c.hw m5:=hm5.turn(zac.alloc(zac.drew(zac.refl(fun _=>False)V))ob)fun hf=>hf
  have:=h2.look false Tryz.underlying222(zdt _)hwf
  rw[hbv]at this
  exact this
 have hlk2:∀ob:Obj,(Instr.lookup 222(.map(some c.W))(.int .i64 t)false).run Tryz.prog(V.alloc ob).drew=.ok(.slice ad5 n5 c5)(V.alloc ob).drew:=fun ob=>by
  have h2:zay(V.alloc ob).drew c.W c.hw m5:=hm5.turn(zac.drew(zac.alloc(zac.refl(fun _=>False)V)ob))fun hf=>hf
  have:=h2.look false Tryz.underlying222(zdt _)hwf
  rw[hbv]at this
  exact this
 have HSZ:Hid(w0.heap.size≤V.heap.size):=HY.out.old.size
 have HPT:Hid(∀v2 w2(ob:Obj),w2.ownsRow w0.heap.size 3 1 v2(n5+1)((q1.wrote t).map(Value.int .i64)++[.int .i64 i])→(V.drew.alloc ob).grownBy w2(Value.slice ad5 n5 c5).ownBlock→(∀k,v2.ownBlock=some k→(Value.slice ad5 n5 c5).ownBlock=some k∨(V.drew.alloc ob).heap.size≤k) →
   (w2.cell?⟨R,5,none⟩=some(.map(some c.W))∧w2.cell?⟨P,0,none⟩=some(.int .i64 t)∧w2.cell?⟨P,2,none⟩=some(.int .i64 i))∧∃X,(X.cell?⟨R,5,none⟩=some(.map(some c.W))∧X.cell?⟨P,0,none⟩=some(.int .i64 t)∧X.cell?⟨P,2,none⟩=some(.int .i64 i))∧(Instr.mapUpdate 222(.map(some c.W))(.int .i64 t)v2).run Tryz.prog w2=.ok()X∧zde w0 X R S F(zjE q1 t i)):=fun v2 w2 ob h1 h2 h3=>by
  have htu:zac(fun k=>(c.wv t).ownBlock=some k)V w2:=by rw[e5];exact zbG h2
  have hpw:∀k,(c.wv t).ownBlock=some k→zbU R c(dt+12)k:=fun k hk=>(zcW R c dt k).2(by rw[←HT.out.2.2.1];exact hk)
  have hd7:=HT.out.2.2.2
  have hnR:¬(c.wv t).ownBlock=some R:=fun e=>HY.out.apart 0(dt+12)R(by omega)(by omega)(by omega)rfl(hpw R e)
  have hnP:¬(c.wv t).ownBlock=some P:=fun e=>HAP.out(dt+12)P(by omega)(hpw P e)rfl
  have hnW:¬(c.wv t).ownBlock=some c.W:=fun e=>HY.out.apart 4(dt+12)c.W(by omega)(by omega)(by omega)rfl(hpw c.W e)
  obtain⟨X,hup,hmX,htX⟩:=(hm5.turn htu hnW).store(v:=v2)Tryz.underlying222 HT.out.1 HT.out.2.1
  have f0:=(htu.cell(p:=⟨R,5,none⟩)HY.out.lt hnR).trans HY.out.c5
  have f1:=HBX.out.turn htu hnP
  have hBR:¬R=c.W:=fun e=>HY.out.apart 0 4 R(by omega)(by omega)(by omega)rfl e
  have hBP:¬P=c.W:=fun e=>HAP.out 4 c.W(by omega)rfl e.symm
  have f2:=f1.turn htX hBP
  refine⟨⟨f0,f1.p0,f1.p2⟩,X,⟨(htX.cell(p:=⟨R,5,none⟩)(World.block_lt_of_cell? w2 _ f0)hBR).trans f0,f2.p0,f2.p2⟩,hup,⟨{ c with hw:=setF c.hw(dt:Int)(some v2) },?_⟩⟩
  have ht':=HT.out.2.2.1
  rw[ht']at htu hmX h1 hn5 e5 ⊢
  refine HY.out.pushWrote(w2:=w2)hd7 htu hmX htX(by rw[hn5];exact h1)fun k hk=>?_
  rcases apart_later h3 k hk with h4|h4
  ·exact .inl(by rw[e5];exact h4)
  ·exact .inr h4
 have HK5:Hid(V.drew.cell?⟨R,5,none⟩=some(.map(some c.W))∧V.drew.cell?⟨P,0,none⟩=some(.int .i64 t)∧V.drew.cell?⟨P,2,none⟩=some(.int .i64 i)):=⟨k5,p0,p2⟩
 have HK6:Hid(∀ob:Obj,(V.drew.alloc ob).cell?⟨R,5,none⟩=some(.map(some c.W))∧(V.drew.alloc ob).cell?⟨P,0,none⟩=some(.int .i64 t)∧(V.drew.alloc ob).cell?⟨P,2,none⟩=some(.int .i64 i)):=fun ob =>
  ⟨(World.cell?_alloc_lt V.drew ob⟨R,5,none⟩hRV).trans k5,(World.cell?_alloc_lt V.drew ob⟨P,0,none⟩hPV).trans p0,(World.cell?_alloc_lt V.drew ob⟨P,2,none⟩hPV).trans p2⟩
 clear hm5 e5 hn5 hbv
 go_wp2_with fail
 go_region_held3(fun w'=>w'.cell?⟨R,5,none⟩=some(.map(some c.W))∧w'.cell?⟨P,0,none⟩=some(.int .i64 t)∧w'.cell?⟨P,2,none⟩=some(.int .i64 i))(first|exact gX|exact g0|exact HK5.out|exact HK6.out _)(first|(refine zaC rfl(.tmp 51)(.tmp 54)24 rfl w0.heap.size 3 i0(.int .i64 0)1 8 Tryz.underlying24 HI.out.1 HI.out.2.1 HI.out.2.2.1 HI.out.2.2.2 rfl(by decide)(.slice ad5 n5 c5)n5((q1.wrote t).map(Value.int .i64))(by simp[Act.eval])(HV.out.alloc _)⟨V.heap.size,0,none⟩1 1 [.int .i64 i](by simp[Act.eval])rfl(zlp V i _)(zkN i)(by unfold maxLen;omega)(by omega)(by have:=HSZ.out;simp;omega) ?_;intro v2 w2 hown2 hgr2 hap2;obtain⟨g0,X,gX,hup,g2⟩:=HPT.out v2 w2 _ hown2 hgr2 hap2;clear hap2 hgr2;obtain⟨ad6,c6,rfl,-⟩:=zad hown2;have HK2:=zae g2;clear g2 hown2))
 all_goals
  go_wp2_with fail
  go_end0
  exact⟨rfl,HK2.out⟩
end Go.Proofs.YthlhgiihngcobaaGreatDoor
