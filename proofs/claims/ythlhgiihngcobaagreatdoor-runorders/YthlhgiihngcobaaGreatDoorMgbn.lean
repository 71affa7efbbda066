/-
  PROVED HERE: odds.Names gives the names of a list's ops; serial.namesEachOnce tells whether a list, sorted, is the other one.
  Conditions: none but those that each theorem's own premises say.
-/
import Derived.Test.YthlhgiihngcobaaGreatDoorMgbm
import Derived.Test.YthlhgiihngcobaaGreatDoorMgaj
import Derived.Test.YthlhgiihngcobaaGreatDoorMgbe
set_option maxHeartbeats 32000000
set_option maxRecDepth 100000
namespace Go.Proofs.YthlhgiihngcobaaGreatDoor
open Go.RowKit Go.Maps
theorem nms_ok(l:List Op3)(v:Value)(w:World)(h:zal w v l)(hc:(chk l).2=0):Calls Tryz.prog 53 #[v] w fun e w'=>∃v',e=.returned (.tuple #[v',.nilIface])/\zaH w' v' (zar l l.length)/\Below w.heap.size w w':=by have hl:=zaN hc;have HT:Hid (∀o∈l,1<=o.1/\o.1<=6):=fun o ho=>zaG (chk_ops hc o ho);go_enter Tryz.func53,Tryz.ntmps53;go_wp2_with fail;refine(check_ok l _ _ h hc).mono ?_;rintro e w1 ⟨rfl,hb1⟩;have hI1:=h.below hb1 (Nat.le_refl _);clear hc h;go_wp2_with fail;refine(onames_any l _ _ hI1 hl HT.out).mono ?_;rintro e w2 ⟨v2,rfl,hN2,hb2⟩;have HN2:Hid (zaH w2 v2 (zar l l.length)):=hN2;have hb02:=hb1.trans (hb2.mono hb1.size);clear hN2 hb1 hb2 hI1;go_wp2_with fail;go_ret2;exact⟨_,rfl,HN2.out,hb02⟩
theorem zew{w:World}{v:Value}{d:List Op3}(h:zaH w v (zar d d.length)):∃ad cap,v=.slice ad d.length cap:=by obtain⟨ad,b,off,cap,hv,-⟩:=h;rw[zbn]at hv;exact⟨ad,cap,hv⟩
theorem zhl{c:Code}{Q:Exit->Act->World->Prop}{a:Act}(w:World)(Z:Array Value)(M:Nat)(f:Nat->Nm)(hZ:zbv=Z)(h:∀W,zas W w.heap.size M f->Below w.heap.size w W->Code.wp Tryz.prog c Q a W):Code.wp Tryz.prog c Q a ((w.alloc (.cells Z 109)).setRow w.heap.size (cells29 M f)):=by subst hZ;exact h _ (setRow_heap _ _ _ _ _ _ (heap_alloc_new _ _)) (below_setRow ((Below.refl _ w).alloc (Nat.le_refl _) _) (Nat.le_refl _) _)
end Go.Proofs.YthlhgiihngcobaaGreatDoor
namespace Go.Proofs.YthlhgiihngcobaaGreatDoor
open Go.RowKit
theorem zjS(o d:List Int)(u v:Value)(w:World)(hu:zak w u o)(hv:zak w v d)(hd:d.length<=6):Calls Tryz.prog 125 #[u,v] w fun e w'=>e=.returned (.bool (za6 o == d))/\Below w.heap.size w w':=by
 by_cases hlen:o.length=d.length
 ·have HU:Hid (zak w u o):=hu;have HV:Hid (∀W,Below w.heap.size w W->zak W v d):=fun W hW=>hv.below hW (Nat.le_refl _);obtain⟨ad,b,off,cap,hu1,-,-,-,-⟩:=hu;obtain⟨ad2,b2,off2,cap2,hv1,-,-,-,-⟩:=hv;have HL:Hid (o.length<=6):=by show o.length<=6;omega
  have HD:Hid (d.length<=6):=hd;rw[hlen]at hu1;obtain⟨n,hn⟩:∃n,d.length=n:=⟨_,rfl⟩;rw[hn]at hu1 hv1;subst hu1 hv1;clear hn hlen hd;go_enter Tryz.func125,Tryz.ntmps125;go_wp2_with fail;refine(clone_ints o _ _ HU.out (by have:=HL.out;omega)).mono ?_;rintro e w1 ⟨v1,rfl,hown1,hb1⟩;have HO1:Hid (w1.ownsRow w.heap.size 3 1 v1 o.length (o.map (Value.int .i64))):=hown1;clear hown1;go_wp2_with fail;refine(sort_own o _ _ _ _ rfl (by have:=HL.out;omega) HO1.out).mono ?_;rintro e w2 ⟨rfl,hown2,hgr2⟩;have hb2:Below w.heap.size w w2:=hb1.grown hgr2 hb1.size (fun m hm=>(HO1.out.lt m hm).1);have HO2:Hid (zak w2 v1 (za6 o)):=zaF hown2 (zaD o).length_eq;clear hown2 hgr2;go_wp2_with fail;refine(zh9 (za6 o) d _ _ _ HO2.out (HV.out _ hb2) (by rw[(zaD o).length_eq];have:=HL.out;omega) (by have:=HD.out;omega)).mono ?_;rintro e w3 ⟨rfl,hb3⟩;go_wp2_with fail;go_ret;exact⟨rfl,hb2.trans (hb3.mono hb2.size)⟩
 ·have HF:Hid ((za6 o == d)=false):=zkm (by rw[(zaD o).length_eq];exact hlen);obtain⟨ad,b,off,cap,rfl,-,-,-,-⟩:=hu;obtain⟨ad2,b2,off2,cap2,rfl,-,-,-,-⟩:=hv;have hne:((o.length:Int) == (d.length:Int))=false:=by rw[beq_eq_false_iff_ne];omega
  clear hlen hd;go_enter Tryz.func125,Tryz.ntmps125;go_wp2_with fail;go_ret;exact⟨by rw[HF.out];rfl,Below.refl _ _⟩
end Go.Proofs.YthlhgiihngcobaaGreatDoor
