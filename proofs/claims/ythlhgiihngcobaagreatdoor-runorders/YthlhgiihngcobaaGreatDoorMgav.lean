/-
  PROVED HERE: plain facts, with no word of the program; plain facts, with no word of the program.
  Conditions: none but those that each theorem's own premises say.
-/
import Derived.Test.YthlhgiihngcobaaGreatDoorMgao
import Derived.Test.YthlhgiihngcobaaGreatDoorMgaq
import Derived.Test.YthlhgiihngcobaaGreatDoorMgaf
import Derived.Test.YthlhgiihngcobaaGreatDoorMgar
import Derived.Test.YthlhgiihngcobaaGreatDoorMgau
import Derived.Test.YthlhgiihngcobaaGreatDoorMgam
import Derived.Test.YthlhgiihngcobaaGreatDoorMgag
set_option maxHeartbeats 32000000
set_option maxRecDepth 100000
namespace Go.Proofs.YthlhgiihngcobaaGreatDoor
def zbb:List UInt8:=[104,105,115,116,111,114,121,32]
def zc3:List UInt8:=[111,114,100,101,114]
def zfB:List UInt8:=[118,105,101,119]
def zc9:List UInt8:=[102,97,99,101,115]
def zny:List UInt8:=[111,107]
def zop:List UInt8:=[114,101,99,111,118,101,114,97,98,108,101,32,99,97,117,116,105,111,117,115,32,115,116,114,105,99,116,32,114,105,103,111,114,111,117,115]
def zhA(o:List Int):List UInt8:=o.foldl (fun t d=>(if t=[]then t else t++[32])++[zkU d]) []
def zi8(o:List Int):List UInt8:=if zhA o=[]then[45]else zhA o
structure zmo(f:List Op3->List UInt8->List UInt8 × List Op3):Prop where
 hist:∀h t ds,zaL t=some ds->(chk ds).2=0->f h (zbb++t)=(zny,ds)
 order:∀h o,(chk h).2=0->za4 (doneL h)=some o->(∀d∈o,1<=d/\d<=6)->f h zc3=(zi8 o,h)
 view:∀h o,(chk h).2=0->zdq (doneL h)=some o->(∀d∈o,1<=d/\d<=6)->f h zfB=(zi8 o,h)
 faces:∀h,(chk h).2=0->zi6 h=true->ziR h=true->ziG h=true->zg8 h=true->f h zc9=(zop,h)
theorem zgp(o:List Int)(d:Int):zhA (o++[d])=(if zhA o=[]then zhA o else zhA o++[32])++[zkU d]:=by unfold zhA;rw[List.foldl_append];rfl
theorem zb0(ps:List Int)(d:Int):zdl (piecesL 1 1 (ps++[d]))=(if zdl (piecesL 1 1 ps)=[]then zdl (piecesL 1 1 ps)else zdl (piecesL 1 1 ps)++[32])++[114,zkU d,40,97,41,32,119,zkU d,40,97,41,32,99,zkU d]:=by
 rw[zgH];cases hp:piecesL 1 1 ps with
 | nil=>rfl
 | cons a r =>
   have hne:zdl (a::r)≠[]:=by unfold zdl zdN;simp
   rw[if_neg hne];unfold zdl;rw[List.cons_append];simp[zdN,znN,zax]
theorem ze7(ps:List Int):(zcc ps).1.data.toList=zdl (piecesL 1 1 ps)/\(zcc ps).2.data.toList=zhA ps/\((zcc ps).1=bE↔ps=[])/\(zhA ps=[]↔ps=[]):=by
 refine zfk (P:=fun ps=>(zcc ps).1.data.toList=zdl (piecesL 1 1 ps)/\(zcc ps).2.data.toList=zhA ps/\((zcc ps).1=bE↔ps=[])/\(zhA ps=[]↔ps=[])) ?_ (fun r d ih=>?_) ps
 ·exact⟨rfl,rfl,⟨fun _=>rfl,fun _=>rfl⟩,⟨fun _=>rfl,fun _=>rfl⟩⟩
 ·rw[zem,zb0,zgp];obtain⟨h1,h2,h3,h4⟩:=ih
  have e1:zdl (piecesL 1 1 r)=[]↔(zcc r).1=bE:=by
   rw[<-h1];constructor
   ·intro h;exact bytes_ext (by rw[h];rfl)
   ·intro h;rw[h];rfl
  have hd:(dgB d).data.toList=[zkU d]:=rfl;have hap:∀a b:ByteArray,(a++b).data.toList=a.data.toList++b.data.toList:=fun a b=>by rw[ByteArray.data_append,Array.toList_append]
  refine⟨?_,?_,⟨fun h=>?_,fun h=>by simp at h⟩,⟨fun h=>by simp at h,fun h=>by simp at h⟩⟩
  ·unfold zbp;simp only[hap,hd];by_cases hb:(zcc r).1=bE
   ·rw[if_pos hb,if_pos (e1.2 hb),h1];simp
   ·rw[if_neg hb,if_neg (fun h=>hb (e1.1 h)),hap,h1];simp[bBl]
  ·unfold zbp;simp only[hap,hd];by_cases hb:(zcc r).1=bE
   ·rw[if_pos hb,if_pos (h4.2 (h3.1 hb)),h2]
   ·rw[if_neg hb,if_neg (fun h=>hb (h3.2 (h4.1 h))),hap,h2];simp[bBl]
  ·have h5:=congrArg (fun b:ByteArray=>b.data.toList) h;unfold zbp at h5;simp only[hap]at h5;simp[bE]at h5
theorem zbV(u v acc:List UInt8)(h:(10:UInt8) ∉ u):linesT acc (u++10::v)=(acc++u)::linesT [] v:=by
 induction u generalizing acc with
 | nil=>simp[linesT]
 | cons c r ih =>have hc:c≠10:=fun e=>h (by rw[e];exact List.mem_cons_self);show(if c=10 then _ else linesT (acc++[c]) (r++10::v))=_;rw[if_neg hc,ih _ (fun hm=>h (List.mem_cons_of_mem _ hm))];simp
theorem zmb{d:Int}(h1:1<=d)(h6:d<=6):zkU d≠10:=by rcases(show d=1\/d=2\/d=3\/d=4\/d=5\/d=6 by omega)with rfl | rfl | rfl | rfl | rfl | rfl <;> decide
theorem zmx:∀(n:Nat) (ps:List Int),ps.length=n->(∀d∈ps,1<=d/\d<=6)->(10:UInt8) ∉ zdl (piecesL 1 1 ps):=by
 intro n
 induction n with
 | zero=>intro ps hl _;rw[List.length_eq_zero_iff.1 hl];simp[piecesL,zdl]
 | succ n ih =>
   intro ps hl hd;rcases List.eq_nil_or_concat ps with rfl | ⟨r,d,rfl⟩
   ·simp at hl
   ·rw[List.concat_eq_append]at hl hd ⊢;have h1:=ih r (by simpa using hl) fun x hx=>hd x (List.mem_append_left _ hx);have h2:=hd d (by simp);have h3:=zmb h2.1 h2.2;rw[zb0];split
    ·rename_i he;rw[he];simp[h3.symm]
    ·simp[h1,h3.symm]
theorem zdi{o:List Int}(h:zdb o):zbe o:=⟨h.2,h.1⟩
theorem zfL{ps:List Int}(h:zbe ps):za4 (doneL (piecesL 1 1 ps))=some ps:=by
 rw[zel h];unfold za4;rw[<-zd3 (zbW _ _) (za5 _) (fun x hx=>⟨(zaz.1 hx).1,(zaz.1 hx).2.1⟩) fun x hx=>?_]
 ·exact zf4 h
 ·obtain⟨e,he,h2⟩:=(zdn _ x).1 hx;obtain⟨p,q,hpq,hql,rfl⟩:=(zdz h e).1 he;refine(za8 h x).1 ?_;have hg:∀k,k<ps.length->ps.getD k 0∈ps:=fun k hk=>by simp[List.getD,List.getElem?_eq_getElem hk]
  rcases h2 with rfl | rfl
  ·exact hg p (by omega)
  ·exact hg q hql
theorem zgA{ps:List Int}(h:zbe ps):zdq (doneL (piecesL 1 1 ps))=some ps:=by
 rw[zel h];unfold zdq;have hop:=zeZ h;have hs:zeB (piecesL 1 1 ps) ps=true:=by unfold zeB;rw[zdA h.once ps fun x hx=>hx];exact zbE.2 ⟨rfl,fun k hk=>zb9.2 ⟨k,hk,rfl,rfl⟩,zgq.2 fun _ _=>rfl⟩
 have hlen:ps.length=(zac (piecesL 1 1 ps)).length:=by rw[<-zhb h];exact(zaD ps).length_eq.symm
 have hsome:=zjW (ds:=zac (piecesL 1 1 ps)) (p:=zeB (piecesL 1 1 ps)) (zac (piecesL 1 1 ps)).length [] ps (by simp) ⟨h.once,fun x hx=>(za8 h x).1 (by simpa using hx)⟩ hlen hs;obtain⟨r,hr⟩:=Option.isSome_iff_exists.1 hsome;obtain⟨h1,h2,h3⟩:=ziw _ [] r (zcC.nil _) hr;have h4:r=ps:=by unfold zeB at h1;rw[zdA h.once r fun x hx=>(za8 h x).2 (h2.all x hx)]at h1;exact zht h h1
 rw[hr,h4]
theorem zkJ(o:List Int):(zbu (zcc o).1).data.toList=(zbb++zdl (piecesL 1 1 o))++10::(zc3++10::(zfB++10::(zc9++10::[]))):=by
 have hap:∀a b:ByteArray,(a++b).data.toList=a.data.toList++b.data.toList:=fun a b=>by rw[ByteArray.data_append,Array.toList_append]
 unfold zbu;rw[hap,hap,(ze7 o).1];simp[zbb,zc3,zfB,zc9]
theorem zec{o:List Int}(ho:zdb o):¬3000<(zbu (zcc o).1).size:=by have hz:=(zf2 o).1;have hl6:=(zdi ho).len;have s1:(⟨#[104,105,115,116,111,114,121,32]⟩:ByteArray).size=8:=rfl;have s2:(⟨#[10,111,114,100,101,114,10,118,105,101,119,10,102,97,99,101,115,10]⟩:ByteArray).size=18:=rfl;unfold zbu;rw[ByteArray.size_append,ByteArray.size_append,s1,s2];omega
theorem zgn{o:List Int}(ho:zdb o):linesT [] (zbu (zcc o).1).data.toList=[zbb++zdl (piecesL 1 1 o),zc3,zfB,zc9]:=by
 rw[zkJ,zbV _ _ _ (by
  intro h;rcases List.mem_append.1 h with h | h
  ·simp[zbb]at h
  ·exact zmx _ o rfl (zdi ho).deal h),zbV _ _ _ (by simp[zc3]),zbV _ _ _ (by simp[zfB]),zbV _ _ _ (by simp[zc9])]
 rfl
theorem zol{f:List Op3->List UInt8->List UInt8 × List Op3}(hf:zmo f):znA (zog f []):=by
 refine⟨fun o ho=>?_,fun o ho=>?_⟩
 ·have hd:=zdi ho;obtain⟨t1,t2,t3,t4⟩:=ze7 o;have hc:=zcr (a:=1) (b:=1) (by omega) (by omega) hd;have hop:=zeZ hd;have hap:∀a b:ByteArray,(a++b).data.toList=a.data.toList++b.data.toList:=fun a b=>by rw[ByteArray.data_append,Array.toList_append]
  have hsz:=zec ho;have hrig:zg8 (piecesL 1 1 o)=true:=(zgI (a:=1) (b:=1) (by omega) (by omega) hd).2.2.2;have hstr:=zm9 hrig;have hcau:=zmH hop hstr;have hrec:=zmE ((zbT _).1 hc).2.2 hcau;unfold zog;rw[if_neg hsz,zgn ho];have f1:=hf.hist [] (zdl (piecesL 1 1 o)) _ (zjy _ hop) hc;have f2:=hf.order _ o hc (zfL hd) hd.deal;have f3:=hf.view _ o hc (zgA hd) hd.deal;have f4:=hf.faces _ hc hrec hcau hstr hrig;have hr:zdL f [] [zbb++zdl (piecesL 1 1 o),zc3,zfB,zc9]=zny++10::(zi8 o++10::(zi8 o++10::(zop++10::[]))):=by unfold zdL;rw[f1];unfold zdL;rw[f2];unfold zdL;rw[f3];unfold zdL;rw[f4];rfl
  rw[hr]
  have hw:(zet (zcc o)).data.toList=zi8 o:=by
   unfold zet zi8;by_cases h:(zcc o).1=bE
   ·rw[if_pos h,if_pos (t4.2 (t3.1 h))]
   ·rw[if_neg h,if_neg (fun e=>h (t3.2 (t4.1 e))),t2]
  refine bytes_ext ?_;unfold zfI;rw[hap,hap,hap,hap,hw];simp[zny,zop]
 ·have:=zec ho;omega
end Go.Proofs.YthlhgiihngcobaaGreatDoor
namespace Go.Proofs.YthlhgiihngcobaaGreatDoor
abbrev zoC:=List Op3 × List Op3
end Go.Proofs.YthlhgiihngcobaaGreatDoor
