/-
  PROVED HERE: serial.doneDeals gives what is done, and of which deals, in memory of its own; slices.Clone at a list of numbers gives that list, in new memory.
  Conditions: none but those that each theorem's own premises say.
-/
import Derived.Test.YthlhgiihngcobaaGreatDoorMgaj
import Derived.Test.YthlhgiihngcobaaGreatDoorMgak
import Derived.Deep.Onto
import Derived.Deep.QuietTactic
import Derived.BigQuiet
import Derived.WalkSmall
import Derived.OwnWalk
import Derived.Laws.AppendOwnNone
import Derived.Lib.SliceRun
set_option maxHeartbeats 32000000
set_option maxRecDepth 100000
namespace Go.Proofs.YthlhgiihngcobaaGreatDoor
open Go.RowKit
theorem zfV(l:List Op3)(v:Value)(w:World)(h:zal w v l)(hc:(chk l).2=0):Calls Tryz.prog 44 #[v] w fun e w'=>∃u v',e=.returned (.tuple #[u,v',.nilIface])/\zal w' u (doneL l)/\w'.ownsRow w.heap.size 3 1 v' (zac (doneL l)).length ((zac (doneL l)).map (Value.int .i64))/\Below w.heap.size w w':=by go_enter Tryz.func44,Tryz.ntmps44;go_wp2_with fail;refine(done_ok l _ _ h hc).mono ?_;rintro e w1 ⟨u,rfl,hI1,hb1⟩;go_wp2_with fail;refine(deals_own (doneL l) u _ hI1 (chk_done hc)).mono ?_;rintro e w2 ⟨v',rfl,hown2,hb2⟩;go_wp2_with fail;go_ret3;exact⟨_,_,rfl,hI1.below hb2 (Nat.le_refl _),hown2.mono hb1.size,hb1.trans (hb2.mono hb1.size)⟩
end Go.Proofs.YthlhgiihngcobaaGreatDoor
namespace Go.Proofs.YthlhgiihngcobaaGreatDoor
open Go.RowKit
theorem clone_ints(l:List Int)(v:Value)(w:World)(hI:zak w v l)(hl:l.length<=1000):Calls Tryz.prog 79 #[v] w fun e w'=>∃v',e=.returned v'/\w'.ownsRow w.heap.size 3 1 v' l.length (l.map (Value.int .i64))/\Below w.heap.size w w':=by
 obtain⟨ad,b,off,cap,rfl,ha,hn,-,hc⟩:=hI;obtain⟨i0,hi,hz0,hs0,hy0⟩:=info_parts zdT;have HI:Hid (Tryz.prog.info? 3=some i0/\i0.zero=some (.int .i64 0)/\i0.size=1/\i0.bytes=8):=⟨hi,hz0,hs0,hy0⟩;clear hi hz0 hs0 hy0;cases ad with
 | none =>obtain⟨h0,rfl⟩:=hn rfl;have e0:l=[]:=List.length_eq_zero_iff.1 h0;subst e0;clear ha hn hc;have hq:∀w,(binOp .eql 24 (.slice none 0 0) (.slice none 0 0)).run Tryz.prog w=.ok (.bool true) w:=fun w=>Lib.run_eql_slice_nil w _ _ _ _ _ _ _ Tryz.underlying24;go_enter Tryz.func79,Tryz.ntmps79;go_wp2;go_ret;exact⟨_,rfl,World.ownsRow_nil _ _ _ _,Below.refl _ _⟩
 | some a =>
   by_cases h0:l=[]
   ·subst h0;clear ha hn hc;have hq:∀w,(binOp .eql 24 (.slice (some a) 0 cap) (.slice none 0 0)).run Tryz.prog w=.ok (.bool false) w:=fun w=>Lib.run_eql_slice_nil w _ _ _ _ _ _ _ Tryz.underlying24;go_enter Tryz.func79,Tryz.ntmps79;go_wp2_with (at_builtin;refine wpList_append_own_none rfl (.tmp 5) (.tmp 6) 24 rfl w.heap.size 3 i0 1 Tryz.underlying24 HI.out.1 (.slice (some ⟨w.heap.size,0,none⟩) 0 0) 0 [] rfl (World.ownsRow_made w #[] 0 (Nat.le_refl _) (Nat.zero_le _) rfl) rfl ?_);go_ret;exact⟨_,rfl,World.ownsRow_made w #[] 0 (Nat.le_refl _) (Nat.zero_le _) rfl,(Below.refl _ w).alloc (Nat.le_refl _) _⟩
   ·have hq:∀w,(binOp .eql 24 (.slice (some a) l.length cap) (.slice none 0 0)).run Tryz.prog w=.ok (.bool false) w:=fun w=>Lib.run_eql_slice_nil w _ _ _ _ _ _ _ Tryz.underlying24;have ha':=ha (List.length_pos_iff.2 h0);injection ha' with ha';subst ha';have HS:Hid (∀j u,(l.map (Value.int .i64))[j]? = some u->w.cell? ⟨b,off+j,none⟩=some u):=fun j u hj=>by rw[List.getElem?_map]at hj;obtain⟨x,hx,rfl⟩:=Option.map_eq_some_iff.1 hj;have hj':=(List.getElem?_eq_some_iff.1 hx).1;rw[hc j hj'];simp[List.getD,hx]
    clear ha hn hc;go_enter Tryz.func79,Tryz.ntmps79;go_wp2_with (at_builtin;refine wpList_append_own _ rfl (.tmp 5) (.tmp 6) 24 rfl w.heap.size 3 i0 (.int .i64 0) 1 8 Tryz.underlying24 HI.out.1 HI.out.2.1 HI.out.2.2.1 HI.out.2.2.2 rfl (by decide) (.slice (some ⟨w.heap.size,0,none⟩) 0 0) 0 [] rfl (World.ownsRow_made w #[] 0 (Nat.le_refl _) (Nat.zero_le _) rfl) ⟨b,off,none⟩ l.length cap (l.map (Value.int .i64)) rfl (by simp) (fun j u hj=>by rw[Addr.add_lit];have h1:=HS.out j u hj;rw[World.cell?_alloc_lt _ _ _ (World.block_lt_of_cell? w _ h1)];exact h1) (fun u hu=>by obtain⟨k,_,rfl⟩:=List.mem_map.1 hu;rfl) (by unfold maxLen;omega) (by omega) (by simp) ?_;intro v1 w1 hown1 hgr1 hnil1);go_ret;exact⟨_,rfl,by simpa using hown1,((Below.refl _ w).alloc (Nat.le_refl _) _).grown hgr1 (by simp) (by intro k hk;simp[Value.ownBlock]at hk;omega)⟩
end Go.Proofs.YthlhgiihngcobaaGreatDoor
