/-
  PROVED HERE: history.Print writes a list of ops that is right as its text; package run's faceWords, illWords, done, ops.
  Conditions: none but those that each theorem's own premises say.
-/
import Derived.Test.YthlhgiihngcobaaGreatDoorMgar
import Derived.Test.YthlhgiihngcobaaGreatDoorMgaj
import Derived.RangeFuncRecord
import Derived.Test.YthlhgiihngcobaaGreatDoorMgbb
import Derived.Test.YthlhgiihngcobaaGreatDoorMgat
set_option maxHeartbeats 32000000
set_option maxRecDepth 100000
namespace Go.Proofs.YthlhgiihngcobaaGreatDoor
open Go.RowKit
set_option linter.unusedSimpArgs false
theorem zgM(l:List UInt8):Lib.strCells ⟨l.toArray⟩=Lib.byteCells l:=rfl
theorem zbY(l m:List UInt8):Lib.byteCells (l++m)=Lib.byteCells l++Lib.byteCells m:=by simp[Lib.byteCells]
end Go.Proofs.YthlhgiihngcobaaGreatDoor
namespace Go.Proofs.YthlhgiihngcobaaGreatDoor
open Go.RowKit
def zhu(ws:List (List UInt8 × Bool)):List UInt8:=zeP ((ws.filter fun x=>x.2).map fun x=>x.1)
theorem zi0{ws:List (List UInt8 × Bool)}(h:∀x∈ws,x.1≠[]):zfd ws=zhu ws:=by unfold zfd zhu;exact zeX fun w hw=>by obtain⟨x,hx,rfl⟩:=List.mem_map.1 hw;exact h x (List.mem_filter.1 hx).1
theorem znL(hJ:ziV)(a b c d:List UInt8 × Bool)(P cap:Nat)(w:World)(hP:P<w.heap.size)(hw:(a.1.length<=20/\b.1.length<=20)/\c.1.length<=20/\d.1.length<=20)
  (h0:w.cell? ⟨P,0,none⟩=some (zay a.1)) (h1:w.cell? ⟨P,1,none⟩=some (.bool a.2)) (h2:w.cell? ⟨P,2,none⟩=some (zay b.1)) (h3:w.cell? ⟨P,3,none⟩=some (.bool b.2))
  (h4:w.cell? ⟨P,4,none⟩=some (zay c.1)) (h5:w.cell? ⟨P,5,none⟩=some (.bool c.2)) (h6:w.cell? ⟨P,6,none⟩=some (zay d.1)) (h7:w.cell? ⟨P,7,none⟩=some (.bool d.2)) :
  Calls Tryz.prog 59 #[.slice (some ⟨P,0,none⟩) 4 cap] w fun e w'=>e=.returned (zay (zhu [a,b,c,d]))/\Below w.heap.size w w' :=
 zkV hJ [a,b,c,d] P cap w (by simp) (fun x hx=>by
  simp only[List.mem_cons,List.not_mem_nil,or_false]at hx;rcases hx with rfl | rfl | rfl | rfl
  ·exact hw.1.1
  ·exact hw.1.2
  ·exact hw.2.1
  ·exact hw.2.2) hP fun k hk=>by
  have hk':k<4:=hk;rcases(show k=0\/k=1\/k=2\/k=3 by omega)with rfl | rfl | rfl | rfl
  ·exact⟨h0,h1⟩
  ·exact⟨h2,h3⟩
  ·exact⟨h4,h5⟩
  ·exact⟨h6,h7⟩
def zmM(f:Bool × Bool × Bool × Bool):List (List UInt8 × Bool):=[(zlN,f.1),(zl7,f.2.1),(zk8,f.2.2.1),(zlh,f.2.2.2)]
theorem zge(hJ:ziV)(f:Bool × Bool × Bool × Bool)(x:Value)(w:World):Calls Tryz.prog 24 #[zlA f,x] w fun e w'=>e=.returned (.tuple #[zay (zhu (zmM f)),x])/\Below w.heap.size w w':=by
 obtain⟨a,b,c,d⟩:=f
 have hT:=znL hJ (zlN,a) (zl7,b) (zk8,c) (zlh,d) (w.heap.size+1) 4 ((w.alloc (.cells #[.bool a,.bool b,.bool c,.bool d] 62)).alloc (.cells #[zay zlN,.bool a,zay zl7,.bool b,zay zk8,.bool c,zay zlh,.bool d] 117)) (by simp) (by simp only;decide)
  (by rw[World.cell?_alloc_at _ _ _ _ (by simp)];rfl) (by rw[World.cell?_alloc_at _ _ _ _ (by simp)];rfl) (by rw[World.cell?_alloc_at _ _ _ _ (by simp)];rfl) (by rw[World.cell?_alloc_at _ _ _ _ (by simp)];rfl)
  (by rw[World.cell?_alloc_at _ _ _ _ (by simp)];rfl) (by rw[World.cell?_alloc_at _ _ _ _ (by simp)];rfl) (by rw[World.cell?_alloc_at _ _ _ _ (by simp)];rfl) (by rw[World.cell?_alloc_at _ _ _ _ (by simp)];rfl)
 have HT:=zaf hT;have HB:Hid (Below w.heap.size w ((w.alloc (.cells #[.bool a,.bool b,.bool c,.bool d] 62)).alloc (.cells #[zay zlN,.bool a,zay zl7,.bool b,zay zk8,.bool c,zay zlh,.bool d] 117))):=((Below.refl _ w).alloc (Nat.le_refl _) _).alloc (by simp) _;clear hT hJ;show Calls _ _ #[.agg #[.bool a,.bool b,.bool c,.bool d],x] w _;go_enter Tryz.func24,Tryz.ntmps24;go_wp2_with (go_at_call 59;refine HT.out.mono ?_;rintro e w1 ⟨rfl,hb1⟩);go_ret2;exact⟨rfl,HB.out.trans (hb1.mono (by simp;omega))⟩
end Go.Proofs.YthlhgiihngcobaaGreatDoor
