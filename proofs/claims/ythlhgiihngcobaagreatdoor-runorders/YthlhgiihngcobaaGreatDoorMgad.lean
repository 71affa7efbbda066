/-
  PROVED HERE: what the program asks of package strings and strconv, by Go's own text; the same, on.
  Conditions: none but those that each theorem's own premises say.
-/
import Derived.Test.YthlhgiihngcobaaGreatDoorProg
import Derived.WalkKit
import Derived.WalkSpells
import Derived.Handy
import Derived.Lib.Builder
import Derived.Lib.AppendStr
import Derived.Lib.UnsafeStr
import Derived.Lib.Bytealg
import Derived.Lib.Strings
import Derived.Laws.Externs
import Derived.Deep.RegionWith
import Derived.RegionTactic
import Derived.Lib.IndexBytes
import Derived.ChangeAlike
set_option maxHeartbeats 32000000
set_option maxRecDepth 100000
namespace Go.Proofs.YthlhgiihngcobaaGreatDoor
open Go.RowKit
theorem sizeBuilder:(Tryz.prog.info? 34).map (·.size)=some 2:=by kernel_rfl
theorem liesBuilder:liesAt Tryz.prog Tryz.prog.depth 34 (2 / Tryz.prog.cellsOf 34) 0 34 1=true:=by kernel_rfl
theorem infoByte:(Tryz.prog.info? 5).map (fun i=>(i.zero,i.size,i.bytes))=some (some (.int .u8 0),1,1):=by kernel_rfl
theorem cellsByte:Tryz.prog.cellsOf 5=1:=by kernel_rfl
theorem zeJ(b:Nat)(w:World)(h0:w.cell? ⟨b,0,none⟩=some (.pointer (some ⟨b,0,none⟩))):Calls Tryz.prog 14 #[.pointer (some ⟨b,0,none⟩)] w fun e w'=>e=.returned (.tuple #[])/\w'=w:=by obtain⟨j,hj,_⟩:=Option.map_eq_some_iff.1 sizeBuilder;have hq:=Lib.run_neq_ptr_same (P:=Tryz.prog) w ⟨b,0,none⟩ Tryz.underlying31 hj;clear hj;go_enter Tryz.func14,Tryz.ntmps14;go_wp2;go_end0;exact⟨rfl,rfl⟩
theorem zd4(b:Nat)(w:World)(h0:w.cell? ⟨b,0,none⟩=some (.pointer none))(hsh:w.shape? b=some (34,2))(hfz:w.frozen? ⟨b,0,none⟩=false):Calls Tryz.prog 14 #[.pointer (some ⟨b,0,none⟩)] w fun e w'=>e=.returned (.tuple #[])/\w'=w.setCell ⟨b,0,none⟩ (.pointer (some ⟨b,0,none⟩)):=by obtain⟨j,hj,hjs⟩:=Option.map_eq_some_iff.1 sizeBuilder;have h1:=Lib.run_to_unsafe (P:=Tryz.prog) w ⟨b,0,none⟩ Tryz.underlying31 Tryz.underlying53 hj (by rw[hjs];decide) hsh (Nat.zero_lt_succ 1);have h2:=Lib.run_from_unsafe (P:=Tryz.prog) w ⟨b,0,none⟩ Tryz.underlying53 Tryz.underlying31 hj hsh liesBuilder;have h3:=@run_callFunc_extern Tryz.prog 18 _ Extern.AbiNoEscape.same Tryz.func18 (by kernel_rfl) (by kernel_rfl) (by kernel_rfl) (by kernel_rfl);have h4:=@Lib.run_noEscape Tryz.prog;clear hj hjs hsh;go_enter Tryz.func14,Tryz.ntmps14;go_wp2;go_end0;exact⟨rfl,rfl⟩
theorem copyCheck_any(B b:Nat)(bs:List Value)(w:World)(h:Lib.IsBuilder 34 5 B b bs w):Calls Tryz.prog 14 #[.pointer (some ⟨b,0,none⟩)] w fun e w'=>e=.returned (.tuple #[])/\(Lib.BuilderAt 34 5 B b (.pointer (some ⟨b,0,none⟩)) bs w'/\Below B w w'/\∀k,k≠b->w'.heap[k]? = w.heap[k]?):=by
 rcases h with h | h
 ·refine(zd4 b w h.cell0 h.shape h.frozen0).mono ?_;rintro e w' ⟨rfl,rfl⟩;exact⟨rfl,h.used _,(Below.refl B w).setCell (p:=⟨b,0,none⟩) h.1 _,fun k hk=>Below.heap_setCell _ _ _ _ (fun e=>hk e)⟩
 ·refine(zeJ b w h.cell0).mono ?_;rintro e w' ⟨rfl,rfl⟩;exact⟨rfl,h,Below.refl B _,fun _ _=>rfl⟩
theorem zaS{w:World}{b:Nat}{o:Obj}(h:w.heap[b]? = some o):b<w.heap.size:=by
 rcases Nat.lt_or_ge b w.heap.size with h' | h'
 ·exact h'
 ·simp[Array.getElem?_eq_none h']at h
def za9(w w1:World):Prop:=∀(k:Nat) (o:Obj),w.heap[k]? = some o->(∀cs fr,o≠.cells cs 34 fr)->(∀cs fr,o≠.cells cs 5 fr)->w1.heap[k]? = some o
theorem zfv{w:World}{B e s n k:Nat}{v:Value}{xs:List Value}{o:Obj}(hown:w.ownsRow B e s v n xs)(hk:w.heap[k]? = some o)(ho:∀cs fr,o≠.cells cs e fr):v.ownBlock≠some k:=by
 rcases hown.2 with⟨rfl,_⟩ | ⟨g,cap,cur,rfl,_,hg,_⟩
 ·simp[Value.ownBlock]
 ·intro h;simp only[Value.ownBlock,Option.some.injEq]at h;subst h;rw[hg]at hk;exact ho _ _ (Option.some.inj hk).symm
theorem zgX(B b:Nat)(bs:List Value)(c:Int)(w:World)(h:Lib.IsBuilder 34 5 B b bs w)(hlen:bs.length+1<=140737488355328)(hBw:B<=w.heap.size):Calls Tryz.prog 10 #[.pointer (some ⟨b,0,none⟩),.int .u8 c] w fun e w'=>e=.returned .nilIface/\(Lib.BuilderAt 34 5 B b (.pointer (some ⟨b,0,none⟩)) (bs++[.int .u8 c]) w'/\Below B w w'/\za9 w w'):=by
 have hb0:∃cs,w.heap[b]? = some (.cells cs 34 (0,0)):=by
  rcases h with⟨_,v,hv,_⟩ | ⟨_,v,hv,_⟩
  ·exact⟨_,hv⟩
  ·exact⟨_,hv⟩
 have HB0:Hid (∃cs,w.heap[b]? = some (.cells cs 34 (0,0))):=hb0;clear hb0;go_enter Tryz.func10,Tryz.ntmps10;go_wp2_with (go_at_call 14;refine(copyCheck_any B b bs _ h).mono ?_);rintro e w1 ⟨rfl,h1,hb1,hk1⟩;have HK1:Hid (∀k,k≠b->w1.heap[k]? = w.heap[k]?):=hk1;clear hk1;obtain⟨hB,v,hbk,hown,hne⟩:=h1;have c0:w1.cell? ⟨b,0,none⟩=some (.pointer (some ⟨b,0,none⟩)):=by rw[Lib.cell_of_heap hbk];rfl
 have c1:w1.cell? ⟨b,1,none⟩=some v:=by rw[Lib.cell_of_heap hbk];rfl
 have HB:Hid (w1.heap[b]? = some (.cells #[.pointer (some ⟨b,0,none⟩),v] 34 (0,0))):=hbk;clear hbk;obtain⟨i0,hi,hz0,hz1,hz2⟩:=info_parts infoByte;have HI:Hid (Tryz.prog.info? 5=some i0/\i0.zero=some (.int .u8 0)/\i0.size=1/\i0.bytes=1):=⟨hi,hz0,hz1,hz2⟩;clear hi hz0 hz1 hz2;go_wp2_with (at_builtin;refine wpList_append_own _ rfl (.tmp 11) (.tmp 13) 32 rfl B 5 i0 (.int .u8 0) 1 1 Tryz.underlying32 HI.out.1 HI.out.2.1 HI.out.2.2.1 HI.out.2.2.2 rfl (by decide) v bs.length bs rfl (hown.alloc _) ⟨w1.heap.size,0,none⟩ 1 1 [.int .u8 c] rfl rfl (cell_one_new _ _ _) (by simp[Value.oneCell']) (by unfold maxLen;omega) (by omega) (by have:=hb1.size;simp;omega) ?_;intro v' w2 hown2 hgr2 hnil2;have hb2:Hid (w2.heap[b]? = some (.cells #[.pointer (some ⟨b,0,none⟩),v] 34 (0,0))):=(hgr2.block b (by have:=zaS HB.out;simp;omega) (fun e=>hne e.symm)).trans ((Lib.alloc_old w1 _ b (zaS HB.out)).trans HB.out);have d0:w2.cell? ⟨b,0,none⟩=some (.pointer (some ⟨b,0,none⟩)):=(Lib.cell_of_heap hb2.out 0).trans rfl;have d1:w2.cell? ⟨b,1,none⟩=some v:=(Lib.cell_of_heap hb2.out 1).trans rfl;have f1:w2.frozen? ⟨b,1,none⟩=false:=Lib.frozen_of_heap hb2.out 1;obtain⟨ao,n',cap,hv'⟩:∃ao n' cap,v'=.slice ao n' cap:=by { rcases hown2.2 with⟨hv,_⟩ | ⟨g,cap,cur,hv,_⟩;exact⟨_,_,_,hv⟩;exact⟨_,_,_,hv⟩ };subst hv');go_ret;refine⟨rfl,?_,?_,?_⟩
 ·exact Lib.BuilderAt.put (T:=34) (e:=5) hB hb2.out (bs':=bs++[.int .u8 c]) (by simpa using hown2) (by decide)
 ·exact((hb1.alloc (by have:=hb1.size;omega) _).grown hgr2 (by have:=hb1.size;simp;omega) (fun k hk=>(hown.lt k hk).1)).setCell (p:=⟨b,1,none⟩) hB _
 ·intro k o hkw h65 h5;have hkb:k≠b:=by rintro rfl;obtain⟨cs',hcs'⟩:=HB0.out;rw[hcs']at hkw;exact h65 _ _ (Option.some.inj hkw).symm
  have hk1:w1.heap[k]? = some o:=(HK1.out k hkb).trans hkw;have hkr:v.ownBlock≠some k:=zfv hown hk1 h5;rw[Below.heap_setCell _ _ _ _ (fun e=>hkb e),hgr2.block k (by have:=zaS hk1;simp;omega) (fun e=>hkr e.symm),Lib.alloc_old w1 _ k (zaS hk1)];exact hk1
theorem zfC(B b:Nat)(bs:List Value)(s:ByteArray)(w:World)(h:Lib.IsBuilder 34 5 B b bs w)(hlen:bs.length+s.size<=140737488355328)(hBw:B<=w.heap.size):Calls Tryz.prog 8 #[.pointer (some ⟨b,0,none⟩),.string s] w fun e w'=>e=.returned (.tuple #[.int .i64 s.size,.nilIface])/\(Lib.BuilderAt 34 5 B b (.pointer (some ⟨b,0,none⟩)) (bs++Lib.strCells s) w'/\Below B w w'/\za9 w w'):=by
 have hb0:∃cs,w.heap[b]? = some (.cells cs 34 (0,0)):=by
  rcases h with⟨_,v,hv,_⟩ | ⟨_,v,hv,_⟩
  ·exact⟨_,hv⟩
  ·exact⟨_,hv⟩
 have HB0:Hid (∃cs,w.heap[b]? = some (.cells cs 34 (0,0))):=hb0;clear hb0;go_enter Tryz.func8,Tryz.ntmps8;go_wp2_with (go_at_call 14;refine(copyCheck_any B b bs _ h).mono ?_);rintro e w1 ⟨rfl,h1,hb1,hk1⟩;have HK1:Hid (∀k,k≠b->w1.heap[k]? = w.heap[k]?):=hk1;clear hk1;obtain⟨hB,v,hbk,hown,hne⟩:=h1;have c0:w1.cell? ⟨b,0,none⟩=some (.pointer (some ⟨b,0,none⟩)):=by rw[Lib.cell_of_heap hbk];rfl
 have c1:w1.cell? ⟨b,1,none⟩=some v:=by rw[Lib.cell_of_heap hbk];rfl
 have HB:Hid (w1.heap[b]? = some (.cells #[.pointer (some ⟨b,0,none⟩),v] 34 (0,0))):=hbk;clear hbk;obtain⟨i0,hi,hz0,hz1,hz2⟩:=info_parts infoByte;have HI:Hid (Tryz.prog.info? 5=some i0/\i0.zero=some (.int .u8 0)/\i0.size=1/\i0.bytes=1):=⟨hi,hz0,hz1,hz2⟩;clear hi hz0 hz1 hz2;go_wp2_with (at_builtin;refine Lib.wpList_append_own_string _ rfl (.tmp 12) (.tmp 13) 32 9 rfl B 5 i0 Tryz.underlying32 Tryz.underlying9 HI.out.1 HI.out.2.1 HI.out.2.2.1 HI.out.2.2.2 v bs.length bs rfl hown s rfl (by unfold maxLen;omega) (by omega) (by have:=hb1.size;omega) ?_;intro v' w2 hown2 hgr2 hnil2;have hb2:Hid (w2.heap[b]? = some (.cells #[.pointer (some ⟨b,0,none⟩),v] 34 (0,0))):=(hgr2.block b (zaS HB.out) (fun e=>hne e.symm)).trans HB.out;have d0:w2.cell? ⟨b,0,none⟩=some (.pointer (some ⟨b,0,none⟩)):=(Lib.cell_of_heap hb2.out 0).trans rfl;have d1:w2.cell? ⟨b,1,none⟩=some v:=(Lib.cell_of_heap hb2.out 1).trans rfl;have f1:w2.frozen? ⟨b,1,none⟩=false:=Lib.frozen_of_heap hb2.out 1;obtain⟨ao,n',cap,hv'⟩:∃ao n' cap,v'=.slice ao n' cap:=by { rcases hown2.2 with⟨hv,_⟩ | ⟨g,cap,cur,hv,_⟩;exact⟨_,_,_,hv⟩;exact⟨_,_,_,hv⟩ };subst hv');go_ret2;refine⟨rfl,?_,?_,?_⟩
 ·exact Lib.BuilderAt.put (T:=34) (e:=5) hB hb2.out (bs':=bs++Lib.strCells s) (by simpa[Lib.strCells_length]using hown2) (by decide)
 ·exact(hb1.grown hgr2 (by have:=hb1.size;omega) (fun k hk=>(hown.lt k hk).1)).setCell (p:=⟨b,1,none⟩) hB _
 ·intro k o hkw h65 h5;have hkb:k≠b:=by rintro rfl;obtain⟨cs',hcs'⟩:=HB0.out;rw[hcs']at hkw;exact h65 _ _ (Option.some.inj hkw).symm
  have hk1:w1.heap[k]? = some o:=(HK1.out k hkb).trans hkw;have hkr:v.ownBlock≠some k:=zfv hown hk1 h5;rw[Below.heap_setCell _ _ _ _ (fun e=>hkb e),hgr2.block k (zaS hk1) (fun e=>hkr e.symm)];exact hk1
end Go.Proofs.YthlhgiihngcobaaGreatDoor
namespace Go.Proofs.YthlhgiihngcobaaGreatDoor
open Go.RowKit
theorem zfr(B b:Nat)(l:List UInt8)(w:World)(h:Lib.IsBuilder 34 5 B b (Lib.byteCells l) w)(h0:l≠[]):Calls Tryz.prog 11 #[.pointer (some ⟨b,0,none⟩)] w fun e w'=>e=.returned (.string ⟨l.toArray⟩)/\Below B w w'/\za9 w w':=by
 obtain⟨p,hB,v,hbk,hown,hne⟩:∃p,Lib.BuilderAt 34 5 B b p (Lib.byteCells l) w:=by
  rcases h with h | h
  ·exact⟨_,h⟩
  ·exact⟨_,h⟩
 have hl0:l.length≠0:=by simpa using h0
 rw[Lib.byteCells_length]at hown
 obtain⟨g,cap,cur,rfl,hbg,hg,hnc,hcm,hcs,htake⟩:∃g cap cur,v=.slice (some ⟨g,0,none⟩) l.length cap/\B<=g/\w.heap[g]? = some (.cells cur 5 (0,0))/\l.length<=cap/\cap<=maxLen/\cur.size=cap*1/\cur.toList.take (l.length*1)=Lib.byteCells l:=by
  rcases hown.2 with⟨_,hz⟩ | ⟨g,cap,cur,hv,r⟩
  ·exact absurd hz hl0
  ·exact⟨g,cap,cur,hv,r⟩
 have c1:w.cell? ⟨b,1,none⟩=some (.slice (some ⟨g,0,none⟩) l.length cap):=by rw[Lib.cell_of_heap hbk];rfl
 have hSD:(Builtin.unsafeSliceData_ #[32] 52 #[.slice (some ⟨g,0,none⟩) l.length cap]).run Tryz.prog w.drew=.ok (.pointer (some ⟨g,0,none⟩)) w.drew :=Lib.run_unsafeSliceData_row _ _ _ _ _ _ (by omega);have hUS:(Builtin.unsafeString_ #[52,3] 9 #[.pointer (some ⟨g,0,none⟩),.int .i64 l.length]).run Tryz.prog w.drew=.ok (.string ⟨l.toArray⟩) (w.drew.freeze ⟨g,0,none⟩ l.length):=by refine Lib.run_unsafeString_row w.drew 52 3 9 5 Tryz.underlying52 cellsByte g cur.size (by have hg':w.drew.heap[g]? = some (.cells cur 5 (0,0)):=hg;simp[World.shape?,hg']) l h0 (by omega) (by unfold maxLen at hcm;omega) ?_;intro j x hx;have:=hown.cells (g:=g) rfl j (.int .u8 x.toNat) (by simp[Lib.byteCells,hx]);exact this
 have HU:Hid (za9 w (w.drew.freeze ⟨g,0,none⟩ l.length)):=fun k o hk _ h8=>by
  have hkg:k≠g:=fun e=>by rw[e,hg]at hk;exact h8 _ _ (Option.some.inj hk).symm
  have hk':w.drew.heap[k]? = some o:=hk;unfold World.freeze;split
  ·exact hk'
  ·simp only[Array.getElem?_modify];rw[if_neg (fun e=>hkg e.symm)];exact hk'
 clear hg hbk hown htake hcs h;go_enter Tryz.func11,Tryz.ntmps11;go_wp2;go_region;all_goals (go_wp2;go_ret;exact⟨rfl,Lib.below_freeze (Below.drew (Below.refl B w)) (p:=⟨g,0,none⟩) hbg _,HU.out⟩)
theorem zgC(B b:Nat)(p:Value)(w:World)(hbk:w.heap[b]? = some (.cells #[p,.slice none 0 0] 34 (0,0))):Calls Tryz.prog 11 #[.pointer (some ⟨b,0,none⟩)] w fun e w'=>e=.returned (.string ⟨#[]⟩)/\Below B w w'/\za9 w w':=by
 have hUS:=fun W=>Lib.run_unsafeString_none (P:=Tryz.prog) W 52 3 9 none;have c1:w.cell? ⟨b,1,none⟩=some (.slice none 0 0):=by rw[Lib.cell_of_heap hbk];rfl
 have hSD:(Builtin.unsafeSliceData_ #[32] 52 #[.slice none 0 0]).run Tryz.prog w.drew=.ok (.pointer none) w.drew:=rfl;clear hbk;go_enter Tryz.func11,Tryz.ntmps11;go_wp2;go_region;all_goals (go_wp2;go_ret;exact⟨rfl,Below.drew (Below.refl B w),fun _ _ hk _ _=>hk⟩)
theorem indexByte_lite(s:ByteArray)(c:Int)(w:World):Calls Tryz.prog 102 #[.string s,.int .u8 c] w fun e w'=>e=.returned (.int .i64 (Lib.indexByte s.data.toList c.toNat.toUInt8))/\w'=w:=by have h1:=@run_callFunc_extern Tryz.prog 173 _ Extern.BytealgIndexByte.indexByte Tryz.func173 (by kernel_rfl) (by kernel_rfl) (by kernel_rfl) (by kernel_rfl);have h2:=@Lib.run_indexByteString Tryz.prog;go_enter Tryz.func102,Tryz.ntmps102;go_wp2;go_ret;exact⟨rfl,rfl⟩
theorem indexByte_any(s:ByteArray)(c:Int)(w:World):Calls Tryz.prog 210 #[.string s,.int .u8 c] w fun e w'=>e=.returned (.int .i64 (Lib.indexByte s.data.toList c.toNat.toUInt8))/\w'=w:=by go_enter Tryz.func210,Tryz.ntmps210;go_wp2_with (go_at_call 102;refine(indexByte_lite _ _ _).mono ?_;rintro e w' ⟨rfl,rfl⟩);go_ret;exact⟨rfl,rfl⟩
theorem index_one(s:ByteArray)(w:World):Calls Tryz.prog 39 #[.string s,.string ⟨#[32]⟩] w fun e w'=>e=.returned (.int .i64 (Lib.indexByte s.data.toList 32))/\w'=w:=by
 go_enter Tryz.func39,Tryz.ntmps39;go_wp2_with (go_at_call 102;refine(indexByte_lite _ _ _).mono ?_;rintro e w' ⟨rfl,rfl⟩)
 ·have h:([32] == s.toList)=true:=by assumption
  go_ret;refine⟨?_,rfl⟩;have e:s.data.toList=[32]:=by rw[<-Lib.toList_data];exact(beq_iff_eq.1 h).symm
  rw[e];simp[Lib.indexByte]
 ·go_ret;exact⟨rfl,rfl⟩
theorem zc8(u v:List UInt8)(c:UInt8)(h:c ∉ u):Lib.indexByte (u++c::v) c=u.length:=by
 induction u with
 | nil=>simp[Lib.indexByte]
 | cons a r ih =>
   have ha:(a == c)=false:=by simp;intro e;exact h (by simp[e])
   have ih':=ih (fun hr=>h (List.mem_cons_of_mem _ hr));simp only[List.cons_append,Lib.indexByte,ha,ih'];simp
theorem zcG(u:List UInt8)(c:UInt8)(h:c ∉ u):Lib.indexByte u c=-1:=by
 induction u with
 | nil=>rfl
 | cons a r ih =>
   have ha:(a == c)=false:=by simp;intro e;exact h (by simp[e])
   have ih':=ih (fun hr=>h (List.mem_cons_of_mem _ hr));simp[Lib.indexByte,ha,ih']
theorem zaY{s t:ByteArray}(h:s.data.toList=t.data.toList):s=t:=by obtain⟨⟨l⟩⟩:=s;obtain⟨⟨m⟩⟩:=t;simp at h;rw[h]
theorem cutLite_hit(u v:List UInt8)(w:World)(h:(32:UInt8) ∉ u)(hs:(u++32::v).length<=9223372036854775807):Calls Tryz.prog 17 #[.string ⟨(u++32::v).toArray⟩,.string ⟨#[32]⟩] w fun e w'=>e=.returned (.tuple #[.string ⟨u.toArray⟩,.string ⟨v.toArray⟩,.bool true])/\w'=w.drew:=by
 have hix:=zc8 u v 32 h;have e1:(⟨(u++32::v).toArray⟩:ByteArray).extract 0 u.length=⟨u.toArray⟩:=zaY (by rw[Lib.extract_data];simp);have e2:(⟨(u++32::v).toArray⟩:ByteArray).extract (u.length+1) (⟨(u++32::v).toArray⟩:ByteArray).size=⟨v.toArray⟩:=zaY (by rw[Lib.extract_to_end];simp[List.drop_append]);have hz:(⟨(u++32::v).toArray⟩:ByteArray).size=u.length+v.length+1:=by show(u++32::v).toArray.size=_;simp;omega
 have hl:u.length+v.length+1<=9223372036854775807:=by simp at hs;omega
 obtain⟨s,hsd⟩:∃s:ByteArray,s=⟨(u++32::v).toArray⟩:=⟨_,rfl⟩;have hsl:s.data.toList=u++32::v:=by rw[hsd]
 rw[<-hsd]at e1 e2 hz ⊢;rw[hz]at e2;have HX:Hid (Lib.indexByte s.data.toList 32=u.length):=by show Lib.indexByte s.data.toList 32=u.length;rw[hsl];exact hix
 clear hix hsl hsd hs h;go_enter Tryz.func17,Tryz.ntmps17;go_wp2_with (go_at_call 39;refine(index_one _ _).mono ?_;rintro e w' ⟨rfl,rfl⟩;rw[HX.out]);go_region;go_wp2;go_ret3;exact⟨rfl,rfl⟩
theorem cutLite_miss(s:ByteArray)(w:World)(h:(32:UInt8) ∉ s.data.toList):Calls Tryz.prog 17 #[.string s,.string ⟨#[32]⟩] w fun e w'=>e=.returned (.tuple #[.string s,.string ⟨#[]⟩,.bool false])/\w'=w:=by have HX:Hid (Lib.indexByte s.data.toList 32=-1):=zcG _ _ h;clear h;go_enter Tryz.func17,Tryz.ntmps17;go_wp2_with (go_at_call 39;refine(index_one _ _).mono ?_;rintro e w' ⟨rfl,rfl⟩;rw[HX.out]);go_ret3;exact⟨rfl,rfl⟩
theorem zgZ(u v:List UInt8)(w:World)(h:(32:UInt8) ∉ u)(hs:(u++32::v).length<=9223372036854775807):Calls Tryz.prog 13 #[.string ⟨(u++32::v).toArray⟩,.string ⟨#[32]⟩] w fun e w'=>e=.returned (.tuple #[.string ⟨u.toArray⟩,.string ⟨v.toArray⟩,.bool true])/\w'=w.drew:=by go_enter Tryz.func13,Tryz.ntmps13;go_wp2_with (go_at_call 17;refine(cutLite_hit u v _ h hs).mono ?_;rintro e w' ⟨rfl,rfl⟩);go_ret3;exact⟨rfl,rfl⟩
theorem zfM(s:ByteArray)(w:World)(h:(32:UInt8) ∉ s.data.toList):Calls Tryz.prog 13 #[.string s,.string ⟨#[32]⟩] w fun e w'=>e=.returned (.tuple #[.string s,.string ⟨#[]⟩,.bool false])/\w'=w:=by go_enter Tryz.func13,Tryz.ntmps13;go_wp2_with (go_at_call 17;refine(cutLite_miss s _ h).mono ?_;rintro e w' ⟨rfl,rfl⟩);go_ret3;exact⟨rfl,rfl⟩
def zkU(t:Int):UInt8:=(48+t.toNat).toUInt8
end Go.Proofs.YthlhgiihngcobaaGreatDoor
